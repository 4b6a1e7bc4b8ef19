/- Layer 5: the document's decoder in memory: Byte, All. -/
import Derived.Test.YtfekjlajagoooaaDoorF5DcT
import Derived.Laws.IdiomStrings
import Derived.WalkLawsBesides
import Derived.Deep.RegionHeld3
namespace Go.Proofs.YtfekjlajagoooaaDoor.D5
open Go.RowKit Go.Lib Dec

def strK (k : List UInt8) : ByteArray := ⟨k.toArray⟩

/-- The document's decoder in memory, that keeps k. -/
structure IsRef (w : World) (a z : Nat) (k : List UInt8) : Prop where
  blk : Part w a z #[.string (strK k)]
  ok : fullB k = false

/-- string([]byte{b}). -/
theorem byte_text (W : World) (g : Nat) (b : UInt8) (c : Int) (hc : (b.toNat : Int) = c) (h : W.cell? ⟨g, 0, none⟩ = some (.int .u8 c)) : (convert 45 9 (.slice (some ⟨g, 0, none⟩) 1 1)).run Tryd.prog W = .ok (.string (strK [b])) W := by
  subst hc
  exact run_convert_bytes_back (P := Tryd.prog) _ 45 9 5 ⟨g, 0, none⟩ 1 [b] Tryd.underlying45 Tryd.underlying5 Tryd.underlying9 (fun j hj => by
    have hj0 : j = 0 := by simpa using hj
    subst hj0
    simpa [Addr.add] using h)

theorem str_cat (k : List UInt8) (b : UInt8) : strK k ++ strK [b] = strK (k ++ [b]) := by
  apply ByteArray.ext
  simp [strK, ByteArray.data_append]
theorem str_some {k : List UInt8} (h : k ≠ []) : (strK k).toList.isEmpty = false := by
  rw [Lib.toList_data]
  cases k with
  | nil => exact absurd rfl h
  | cons x k => rfl

theorem dcr {w : World} {a z : Nat} {v : Value} (h : Part w a z #[v]) : w.cell? ⟨a, z, none⟩ = some v := Part.cell h (i := 0) (by show 0 < 1; omega)
theorem own_apart' {w : World} {base a : Nat} {v : Value} {l : List Nat} (h : OwnRunes w base v l) (ha : a < base) : v.ownBlock ≠ some a := fun e => by have := own_ge h a e; omega
theorem own_stirs' {w w' : World} {base a z n : Nat} {v : Value} {l : List Nat} (h : OwnRunes w base v l) (ha : a < base) (hs : Stirs a z n w w') : OwnRunes w' base v l :=
  own_keep h fun g hg => hs.block g (own_lt h g hg) (fun e => by have := own_ge h g hg; omega)

/-- What the document's Byte answers: t is told, k is kept. -/
def RefPost (w : World) (a z : Nat) (t : List Nat × List UInt8) (e : Ending) (w' : World) : Prop := ∃ v, e = .returned v ∧ OwnRunes w' w.heap.size v t.1 ∧ IsRef w' a z t.2 ∧ Stirs a z 1 w w'
def BegIs (t : ByteArray) (n : Int) : Prop := ∀ W : World, Calls Tryd.prog 55 #[.string t] W fun e w' => e = .returned (.int .i64 n) ∧ Below W.heap.size W w'
def NumIs (t : ByteArray) (r : Nat) : Prop := ∀ W : World, Calls Tryd.prog 56 #[.string t] W fun e w' => e = .returned (.int .i32 (r : Nat)) ∧ W = w'

theorem own_nil (w : World) (B : Nat) : OwnRunes w B (.slice none 0 0) [] := ⟨rfl, Or.inl ⟨rfl, rfl⟩⟩

theorem str_none : (strK []).toList.isEmpty = true := by rw [Lib.toList_data]; rfl

set_option maxHeartbeats 1000000 in
theorem ref_A0 (a z : Nat) (k : List UInt8) (b : UInt8) (w : World) (h : IsRef w a z k) (hk : k = []) (hB : BegIs (strK (k ++ [b])) 0) :
    Calls Tryd.prog 38 #[.pointer (some ⟨a, z, none⟩), .int .u8 b.toNat] w (RefPost w a z ([65533], [])) := by
  have c0 : w.cell? ⟨a, z, none⟩ = some (.string (strK k)) := dcr h.blk
  have hct := byte_text (w.alloc (.cells #[.int .u8 b.toNat] 5)).drew w.heap.size b _ rfl (by simp)
  have hl : a < w.heap.size := (Part.lt h.blk)
  have n1 : ¬ 9223372036854775807 < (strK k).size + (strK [b]).size := by
    have h1 : (strK k).size = k.length := by simp [strK, ByteArray.size]
    have h2 : (strK [b]).size = 1 := rfl
    have := full_length h.ok
    omega
  have e0 : (strK k).toList.isEmpty = true := by rw [hk]; exact str_none
  have HB := Lib.hid hB
  have HBlk := Lib.hid h.blk
  clear h hk hB
  go_enter Tryd.func38, Tryd.ntmps38
  go_wp2
  go_region
  obtain ⟨V, hV⟩ : ∃ V, V = (w.alloc (.cells #[.int .u8 b.toNat] 5)).drew := ⟨_, rfl⟩
  have VS : Hid (Stirs a z 1 w V) := Lib.hid (by rw [hV]; exact ((Stirs.refl a z 1 w).alloc _ hl).drew)
  have VB : Hid (Part V a z #[.string (strK k)]) := Lib.hid (Part.of_block HBlk.out (by rw [hV, heap_drew, Below.heap_alloc _ _ _ hl]))
  have v0 : V.cell? ⟨a, z, none⟩ = some (.string (strK k)) := dcr VB.out
  have vf : V.frozen? ⟨a, z, none⟩ = false := Part.free VB.out z
  have hVl := Lib.hid (show w.heap.size ≤ V.heap.size from VS.out.size)
  obtain ⟨t, ht⟩ : ∃ t, t = strK k ++ strK [b] := ⟨_, rfl⟩
  have HT := Lib.hid (show t = strK (k ++ [b]) by rw [ht, str_cat])
  rw [← hV, ← ht]
  rw [← HT.out] at HB
  have hl0 := Lib.hid hl
  clear hV ht c0 hct n1 hl
  go_wp2_with fail
  obtain ⟨U, hU⟩ : ∃ U, U = V.setCell ⟨a, z, none⟩ (.string ⟨#[]⟩) := ⟨_, rfl⟩
  have US : Hid (Stirs a z 1 w U) := Lib.hid (by rw [hU]; exact VS.out.set z _ (by omega))
  have UB : Hid (Part U a z #[.string ⟨#[]⟩]) := Lib.hid (by rw [hU]; exact set0 VB.out (.string ⟨#[]⟩) (by show 0 < 1; omega))
  rw [← hU]
  clear hU v0 vf
  refine (show Calls _ _ _ _ _ from HB.out U).mono ?_
  rintro e U1 ⟨rfl, hb⟩
  have US1 := Lib.hid (US.out.andthen hb US.out.size hl0.out)
  have UB1 := Lib.hid (Part.of_block UB.out (hb.block a (Part.lt UB.out)))
  clear hb
  go_wp2_with (at_builtin; refine append_runes _ (by rfl) (.tmp 38) (.tmp 39) rfl w.heap.size _ _ _ _ rfl (own_nil _ _) rfl (lit_runes U1 [65533]) (by decide) (by have := US1.out.size; simp; omega) ?_)
  intro v6 U3 o6 gr
  have FS : Hid (Stirs a z 1 w U3) := Lib.hid (US1.out.andthen (B := w.heap.size) (((Below.refl _ _).alloc US1.out.size _).grown gr (by have := US1.out.size; simp; omega) (fun g hg => by cases hg)) (Nat.le_refl _) hl0.out)
  have FB : Hid (Part U3 a z #[.string ⟨#[]⟩]) := Lib.hid (Part.of_block UB1.out (by
    rw [gr.block a (by have := (Part.lt UB1.out); simp; omega) (fun e => by cases e), Below.heap_alloc _ _ _ (Part.lt UB1.out)]))
  have FO := Lib.hid o6
  clear o6 gr
  go_wp2
  go_ret
  exact ⟨_, rfl, FO.out, ⟨FB.out, rfl⟩, FS.out⟩

set_option maxHeartbeats 1000000 in
theorem ref_A1 (a z : Nat) (k : List UInt8) (b : UInt8) (w : World) (h : IsRef w a z k) (hk : k = []) (hB : BegIs (strK (k ++ [b])) 1) (hfk : fullB (k ++ [b]) = false) :
    Calls Tryd.prog 38 #[.pointer (some ⟨a, z, none⟩), .int .u8 b.toNat] w (RefPost w a z ([], (k ++ [b]))) := by
  have c0 : w.cell? ⟨a, z, none⟩ = some (.string (strK k)) := dcr h.blk
  have hct := byte_text (w.alloc (.cells #[.int .u8 b.toNat] 5)).drew w.heap.size b _ rfl (by simp)
  have hl : a < w.heap.size := (Part.lt h.blk)
  have n1 : ¬ 9223372036854775807 < (strK k).size + (strK [b]).size := by
    have h1 : (strK k).size = k.length := by simp [strK, ByteArray.size]
    have h2 : (strK [b]).size = 1 := rfl
    have := full_length h.ok
    omega
  have e0 : (strK k).toList.isEmpty = true := by rw [hk]; exact str_none
  have HB := Lib.hid hB
  have HFK := Lib.hid hfk
  have HBlk := Lib.hid h.blk
  clear h hk hB hfk
  go_enter Tryd.func38, Tryd.ntmps38
  go_wp2
  go_region
  obtain ⟨V, hV⟩ : ∃ V, V = (w.alloc (.cells #[.int .u8 b.toNat] 5)).drew := ⟨_, rfl⟩
  have VS : Hid (Stirs a z 1 w V) := Lib.hid (by rw [hV]; exact ((Stirs.refl a z 1 w).alloc _ hl).drew)
  have VB : Hid (Part V a z #[.string (strK k)]) := Lib.hid (Part.of_block HBlk.out (by rw [hV, heap_drew, Below.heap_alloc _ _ _ hl]))
  have v0 : V.cell? ⟨a, z, none⟩ = some (.string (strK k)) := dcr VB.out
  have vf : V.frozen? ⟨a, z, none⟩ = false := Part.free VB.out z
  have hVl := Lib.hid (show w.heap.size ≤ V.heap.size from VS.out.size)
  obtain ⟨t, ht⟩ : ∃ t, t = strK k ++ strK [b] := ⟨_, rfl⟩
  have HT := Lib.hid (show t = strK (k ++ [b]) by rw [ht, str_cat])
  rw [← hV, ← ht]
  rw [← HT.out] at HB
  have hl0 := Lib.hid hl
  clear hV ht c0 hct n1 hl
  go_wp2_with fail
  obtain ⟨U, hU⟩ : ∃ U, U = V.setCell ⟨a, z, none⟩ (.string ⟨#[]⟩) := ⟨_, rfl⟩
  have US : Hid (Stirs a z 1 w U) := Lib.hid (by rw [hU]; exact VS.out.set z _ (by omega))
  have UB : Hid (Part U a z #[.string ⟨#[]⟩]) := Lib.hid (by rw [hU]; exact set0 VB.out (.string ⟨#[]⟩) (by show 0 < 1; omega))
  rw [← hU]
  clear hU v0 vf
  refine (show Calls _ _ _ _ _ from HB.out U).mono ?_
  rintro e U1 ⟨rfl, hb⟩
  have US1 := Lib.hid (US.out.andthen hb US.out.size hl0.out)
  have UB1 := Lib.hid (Part.of_block UB.out (hb.block a (Part.lt UB.out)))
  clear hb
  have u0 : U1.cell? ⟨a, z, none⟩ = some (.string ⟨#[]⟩) := dcr UB1.out
  have uf : U1.frozen? ⟨a, z, none⟩ = false := Part.free UB1.out z
  go_wp2
  go_ret
  refine ⟨_, rfl, own_nil _ _, ⟨?_, HFK.out⟩, US1.out.set z _ (by omega)⟩
  have := set0 UB1.out (.string t) (by show 0 < 1; omega)
  rw [HT.out] at this ⊢
  exact this

set_option maxHeartbeats 1000000 in
theorem ref_A2 (a z : Nat) (k : List UInt8) (b : UInt8) (w : World) (h : IsRef w a z k) (hk : k = []) (hB : BegIs (strK (k ++ [b])) 2) (r : Nat) (hR : NumIs (strK (k ++ [b])) r) :
    Calls Tryd.prog 38 #[.pointer (some ⟨a, z, none⟩), .int .u8 b.toNat] w (RefPost w a z ([r], [])) := by
  have c0 : w.cell? ⟨a, z, none⟩ = some (.string (strK k)) := dcr h.blk
  have hct := byte_text (w.alloc (.cells #[.int .u8 b.toNat] 5)).drew w.heap.size b _ rfl (by simp)
  have hl : a < w.heap.size := (Part.lt h.blk)
  have n1 : ¬ 9223372036854775807 < (strK k).size + (strK [b]).size := by
    have h1 : (strK k).size = k.length := by simp [strK, ByteArray.size]
    have h2 : (strK [b]).size = 1 := rfl
    have := full_length h.ok
    omega
  have e0 : (strK k).toList.isEmpty = true := by rw [hk]; exact str_none
  have HB := Lib.hid hB
  have HR := Lib.hid hR
  have HBlk := Lib.hid h.blk
  clear h hk hB hR
  go_enter Tryd.func38, Tryd.ntmps38
  go_wp2
  go_region
  obtain ⟨V, hV⟩ : ∃ V, V = (w.alloc (.cells #[.int .u8 b.toNat] 5)).drew := ⟨_, rfl⟩
  have VS : Hid (Stirs a z 1 w V) := Lib.hid (by rw [hV]; exact ((Stirs.refl a z 1 w).alloc _ hl).drew)
  have VB : Hid (Part V a z #[.string (strK k)]) := Lib.hid (Part.of_block HBlk.out (by rw [hV, heap_drew, Below.heap_alloc _ _ _ hl]))
  have v0 : V.cell? ⟨a, z, none⟩ = some (.string (strK k)) := dcr VB.out
  have vf : V.frozen? ⟨a, z, none⟩ = false := Part.free VB.out z
  have hVl := Lib.hid (show w.heap.size ≤ V.heap.size from VS.out.size)
  obtain ⟨t, ht⟩ : ∃ t, t = strK k ++ strK [b] := ⟨_, rfl⟩
  have HT := Lib.hid (show t = strK (k ++ [b]) by rw [ht, str_cat])
  rw [← hV, ← ht]
  rw [← HT.out] at HB HR
  have hl0 := Lib.hid hl
  clear hV ht c0 hct n1 hl
  go_wp2_with fail
  obtain ⟨U, hU⟩ : ∃ U, U = V.setCell ⟨a, z, none⟩ (.string ⟨#[]⟩) := ⟨_, rfl⟩
  have US : Hid (Stirs a z 1 w U) := Lib.hid (by rw [hU]; exact VS.out.set z _ (by omega))
  have UB : Hid (Part U a z #[.string ⟨#[]⟩]) := Lib.hid (by rw [hU]; exact set0 VB.out (.string ⟨#[]⟩) (by show 0 < 1; omega))
  rw [← hU]
  clear hU v0 vf
  refine (show Calls _ _ _ _ _ from HB.out U).mono ?_
  rintro e U1 ⟨rfl, hb⟩
  have US1 := Lib.hid (US.out.andthen hb US.out.size hl0.out)
  have UB1 := Lib.hid (Part.of_block UB.out (hb.block a (Part.lt UB.out)))
  clear hb
  go_wp2_with fail
  refine (show Calls _ _ _ _ _ from HR.out U1).mono ?_
  rintro e U2 ⟨rfl, rfl⟩
  go_wp2_with (at_builtin; refine append_runes _ (by rfl) (.tmp 48) (.tmp 51) rfl w.heap.size _ _ _ _ rfl (own_nil _ _) rfl (lit_runes U1 [r]) (by simp) (by have := US1.out.size; simp; omega) ?_)
  intro v6 U3 o6 gr
  have FS : Hid (Stirs a z 1 w U3) := Lib.hid (US1.out.andthen (B := w.heap.size) (((Below.refl _ _).alloc US1.out.size _).grown gr (by have := US1.out.size; simp; omega) (fun g hg => by cases hg)) (Nat.le_refl _) hl0.out)
  have FB : Hid (Part U3 a z #[.string ⟨#[]⟩]) := Lib.hid (Part.of_block UB1.out (by
    rw [gr.block a (by have := (Part.lt UB1.out); simp; omega) (fun e => by cases e), Below.heap_alloc _ _ _ (Part.lt UB1.out)]))
  have FO := Lib.hid o6
  clear o6 gr
  go_wp2
  go_ret
  exact ⟨_, rfl, FO.out, ⟨FB.out, rfl⟩, FS.out⟩

set_option maxHeartbeats 1000000 in
theorem ref_B1 (a z : Nat) (k : List UInt8) (b : UInt8) (w : World) (h : IsRef w a z k) (hk : k ≠ []) (hB : BegIs (strK (k ++ [b])) 1) (hfk : fullB (k ++ [b]) = false) :
    Calls Tryd.prog 38 #[.pointer (some ⟨a, z, none⟩), .int .u8 b.toNat] w (RefPost w a z ([], (k ++ [b]))) := by
  have c0 : w.cell? ⟨a, z, none⟩ = some (.string (strK k)) := dcr h.blk
  have hct := byte_text (w.alloc (.cells #[.int .u8 b.toNat] 5)).drew w.heap.size b _ rfl (by simp)
  have hl : a < w.heap.size := (Part.lt h.blk)
  have n1 : ¬ 9223372036854775807 < (strK k).size + (strK [b]).size := by
    have h1 : (strK k).size = k.length := by simp [strK, ByteArray.size]
    have h2 : (strK [b]).size = 1 := rfl
    have := full_length h.ok
    omega
  have e0 : (strK k).toList.isEmpty = false := str_some hk
  have HB := Lib.hid hB
  have HFK := Lib.hid hfk
  have HBlk := Lib.hid h.blk
  clear h hk hB hfk
  go_enter Tryd.func38, Tryd.ntmps38
  go_wp2
  go_region
  obtain ⟨V, hV⟩ : ∃ V, V = (w.alloc (.cells #[.int .u8 b.toNat] 5)).drew := ⟨_, rfl⟩
  have VS : Hid (Stirs a z 1 w V) := Lib.hid (by rw [hV]; exact ((Stirs.refl a z 1 w).alloc _ hl).drew)
  have VB : Hid (Part V a z #[.string (strK k)]) := Lib.hid (Part.of_block HBlk.out (by rw [hV, heap_drew, Below.heap_alloc _ _ _ hl]))
  have v0 : V.cell? ⟨a, z, none⟩ = some (.string (strK k)) := dcr VB.out
  have vf : V.frozen? ⟨a, z, none⟩ = false := Part.free VB.out z
  have hVl := Lib.hid (show w.heap.size ≤ V.heap.size from VS.out.size)
  obtain ⟨t, ht⟩ : ∃ t, t = strK k ++ strK [b] := ⟨_, rfl⟩
  have HT := Lib.hid (show t = strK (k ++ [b]) by rw [ht, str_cat])
  rw [← hV, ← ht]
  rw [← HT.out] at HB
  have hl0 := Lib.hid hl
  clear hV ht c0 hct n1 hl
  go_wp2_with fail
  refine (show Calls _ _ _ _ _ from HB.out V).mono ?_
  rintro e V1 ⟨rfl, hb⟩
  have VS1 := Lib.hid (VS.out.andthen hb VS.out.size hl0.out)
  have VB1 := Lib.hid (Part.of_block VB.out (hb.block a (Part.lt VB.out)))
  clear hb v0 vf
  have v0 : V1.cell? ⟨a, z, none⟩ = some (.string (strK k)) := dcr VB1.out
  have vf : V1.frozen? ⟨a, z, none⟩ = false := Part.free VB1.out z
  go_wp2_with fail
  obtain ⟨U, hU⟩ : ∃ U, U = V1.setCell ⟨a, z, none⟩ (.string ⟨#[]⟩) := ⟨_, rfl⟩
  have US : Hid (Stirs a z 1 w U) := Lib.hid (by rw [hU]; exact VS1.out.set z _ (by omega))
  have UB : Hid (Part U a z #[.string ⟨#[]⟩]) := Lib.hid (by rw [hU]; exact set0 VB1.out (.string ⟨#[]⟩) (by show 0 < 1; omega))
  rw [← hU]
  clear hU v0 vf
  refine (show Calls _ _ _ _ _ from HB.out U).mono ?_
  rintro e U1 ⟨rfl, hb⟩
  have US1 := Lib.hid (US.out.andthen hb US.out.size hl0.out)
  have UB1 := Lib.hid (Part.of_block UB.out (hb.block a (Part.lt UB.out)))
  clear hb
  have u0 : U1.cell? ⟨a, z, none⟩ = some (.string ⟨#[]⟩) := dcr UB1.out
  have uf : U1.frozen? ⟨a, z, none⟩ = false := Part.free UB1.out z
  go_wp2
  go_ret
  refine ⟨_, rfl, own_nil _ _, ⟨?_, HFK.out⟩, US1.out.set z _ (by omega)⟩
  have := set0 UB1.out (.string t) (by show 0 < 1; omega)
  rw [HT.out] at this ⊢
  exact this

set_option maxHeartbeats 1000000 in
theorem ref_B2 (a z : Nat) (k : List UInt8) (b : UInt8) (w : World) (h : IsRef w a z k) (hk : k ≠ []) (hB : BegIs (strK (k ++ [b])) 2) (r : Nat) (hR : NumIs (strK (k ++ [b])) r) :
    Calls Tryd.prog 38 #[.pointer (some ⟨a, z, none⟩), .int .u8 b.toNat] w (RefPost w a z ([r], [])) := by
  have c0 : w.cell? ⟨a, z, none⟩ = some (.string (strK k)) := dcr h.blk
  have hct := byte_text (w.alloc (.cells #[.int .u8 b.toNat] 5)).drew w.heap.size b _ rfl (by simp)
  have hl : a < w.heap.size := (Part.lt h.blk)
  have n1 : ¬ 9223372036854775807 < (strK k).size + (strK [b]).size := by
    have h1 : (strK k).size = k.length := by simp [strK, ByteArray.size]
    have h2 : (strK [b]).size = 1 := rfl
    have := full_length h.ok
    omega
  have e0 : (strK k).toList.isEmpty = false := str_some hk
  have HB := Lib.hid hB
  have HR := Lib.hid hR
  have HBlk := Lib.hid h.blk
  clear h hk hB hR
  go_enter Tryd.func38, Tryd.ntmps38
  go_wp2
  go_region
  obtain ⟨V, hV⟩ : ∃ V, V = (w.alloc (.cells #[.int .u8 b.toNat] 5)).drew := ⟨_, rfl⟩
  have VS : Hid (Stirs a z 1 w V) := Lib.hid (by rw [hV]; exact ((Stirs.refl a z 1 w).alloc _ hl).drew)
  have VB : Hid (Part V a z #[.string (strK k)]) := Lib.hid (Part.of_block HBlk.out (by rw [hV, heap_drew, Below.heap_alloc _ _ _ hl]))
  have v0 : V.cell? ⟨a, z, none⟩ = some (.string (strK k)) := dcr VB.out
  have vf : V.frozen? ⟨a, z, none⟩ = false := Part.free VB.out z
  have hVl := Lib.hid (show w.heap.size ≤ V.heap.size from VS.out.size)
  obtain ⟨t, ht⟩ : ∃ t, t = strK k ++ strK [b] := ⟨_, rfl⟩
  have HT := Lib.hid (show t = strK (k ++ [b]) by rw [ht, str_cat])
  rw [← hV, ← ht]
  rw [← HT.out] at HB HR
  have hl0 := Lib.hid hl
  clear hV ht c0 hct n1 hl
  go_wp2_with fail
  refine (show Calls _ _ _ _ _ from HB.out V).mono ?_
  rintro e V1 ⟨rfl, hb⟩
  have VS1 := Lib.hid (VS.out.andthen hb VS.out.size hl0.out)
  have VB1 := Lib.hid (Part.of_block VB.out (hb.block a (Part.lt VB.out)))
  clear hb v0 vf
  have v0 : V1.cell? ⟨a, z, none⟩ = some (.string (strK k)) := dcr VB1.out
  have vf : V1.frozen? ⟨a, z, none⟩ = false := Part.free VB1.out z
  go_wp2_with fail
  obtain ⟨U, hU⟩ : ∃ U, U = V1.setCell ⟨a, z, none⟩ (.string ⟨#[]⟩) := ⟨_, rfl⟩
  have US : Hid (Stirs a z 1 w U) := Lib.hid (by rw [hU]; exact VS1.out.set z _ (by omega))
  have UB : Hid (Part U a z #[.string ⟨#[]⟩]) := Lib.hid (by rw [hU]; exact set0 VB1.out (.string ⟨#[]⟩) (by show 0 < 1; omega))
  rw [← hU]
  clear hU v0 vf
  refine (show Calls _ _ _ _ _ from HB.out U).mono ?_
  rintro e U1 ⟨rfl, hb⟩
  have US1 := Lib.hid (US.out.andthen hb US.out.size hl0.out)
  have UB1 := Lib.hid (Part.of_block UB.out (hb.block a (Part.lt UB.out)))
  clear hb
  go_wp2_with fail
  refine (show Calls _ _ _ _ _ from HR.out U1).mono ?_
  rintro e U2 ⟨rfl, rfl⟩
  go_wp2_with (at_builtin; refine append_runes _ (by rfl) (.tmp 48) (.tmp 51) rfl w.heap.size _ _ _ _ rfl (own_nil _ _) rfl (lit_runes U1 [r]) (by simp) (by have := US1.out.size; simp; omega) ?_)
  intro v6 U3 o6 gr
  have FS : Hid (Stirs a z 1 w U3) := Lib.hid (US1.out.andthen (B := w.heap.size) (((Below.refl _ _).alloc US1.out.size _).grown gr (by have := US1.out.size; simp; omega) (fun g hg => by cases hg)) (Nat.le_refl _) hl0.out)
  have FB : Hid (Part U3 a z #[.string ⟨#[]⟩]) := Lib.hid (Part.of_block UB1.out (by
    rw [gr.block a (by have := (Part.lt UB1.out); simp; omega) (fun e => by cases e), Below.heap_alloc _ _ _ (Part.lt UB1.out)]))
  have FO := Lib.hid o6
  clear o6 gr
  go_wp2
  go_ret
  exact ⟨_, rfl, FO.out, ⟨FB.out, rfl⟩, FS.out⟩

set_option maxHeartbeats 1000000 in
theorem ref_C0 (a z : Nat) (k : List UInt8) (b : UInt8) (w : World) (h : IsRef w a z k) (hk : k ≠ []) (hB : BegIs (strK (k ++ [b])) 0) (hB2 : BegIs (strK [b]) 0) :
    Calls Tryd.prog 38 #[.pointer (some ⟨a, z, none⟩), .int .u8 b.toNat] w (RefPost w a z ([65533, 65533], [])) := by
  have c0 : w.cell? ⟨a, z, none⟩ = some (.string (strK k)) := dcr h.blk
  have hct := byte_text (w.alloc (.cells #[.int .u8 b.toNat] 5)).drew w.heap.size b _ rfl (by simp)
  have hl : a < w.heap.size := (Part.lt h.blk)
  have n1 : ¬ 9223372036854775807 < (strK k).size + (strK [b]).size := by
    have h1 : (strK k).size = k.length := by simp [strK, ByteArray.size]
    have h2 : (strK [b]).size = 1 := rfl
    have := full_length h.ok
    omega
  have e0 : (strK k).toList.isEmpty = false := str_some hk
  have HB := Lib.hid hB
  have HB2 := Lib.hid hB2
  have HBlk := Lib.hid h.blk
  clear h hk hB hB2
  go_enter Tryd.func38, Tryd.ntmps38
  go_wp2
  go_region
  obtain ⟨V, hV⟩ : ∃ V, V = (w.alloc (.cells #[.int .u8 b.toNat] 5)).drew := ⟨_, rfl⟩
  have VS : Hid (Stirs a z 1 w V) := Lib.hid (by rw [hV]; exact ((Stirs.refl a z 1 w).alloc _ hl).drew)
  have VB : Hid (Part V a z #[.string (strK k)]) := Lib.hid (Part.of_block HBlk.out (by rw [hV, heap_drew, Below.heap_alloc _ _ _ hl]))
  have v0 : V.cell? ⟨a, z, none⟩ = some (.string (strK k)) := dcr VB.out
  have vf : V.frozen? ⟨a, z, none⟩ = false := Part.free VB.out z
  have hVl := Lib.hid (show w.heap.size ≤ V.heap.size from VS.out.size)
  obtain ⟨t, ht⟩ : ∃ t, t = strK k ++ strK [b] := ⟨_, rfl⟩
  have HT := Lib.hid (show t = strK (k ++ [b]) by rw [ht, str_cat])
  rw [← hV, ← ht]
  rw [← HT.out] at HB
  have hl0 := Lib.hid hl
  clear hV ht c0 hct n1 hl
  go_wp2_with fail
  refine (show Calls _ _ _ _ _ from HB.out V).mono ?_
  rintro e V1 ⟨rfl, hb⟩
  have VS1 := Lib.hid (VS.out.andthen hb VS.out.size hl0.out)
  have VB1 := Lib.hid (Part.of_block VB.out (hb.block a (Part.lt VB.out)))
  clear hb v0 vf
  go_wp2_with (at_builtin; refine append_runes _ (by rfl) (.tmp 25) (.tmp 26) rfl w.heap.size _ _ _ _ rfl (own_nil _ _) rfl (lit_runes V1 [65533]) (by decide) (by have := VS1.out.size; simp; omega) ?_)
  intro v5 V2 o5 gr
  have O5 := Lib.hid (show OwnRunes V2 w.heap.size v5 [65533] from o5)
  have GR : Hid (Below V1.heap.size V1 V2) := Lib.hid (((Below.refl _ _).alloc (Nat.le_refl _) _).grown gr (by simp) (fun g hg => by cases hg))
  have VS2 := Lib.hid (VS1.out.andthen GR.out VS1.out.size hl0.out)
  have VB2 := Lib.hid (Part.of_block VB1.out (GR.out.block a (Part.lt VB1.out)))
  have hct := byte_text (V2.alloc (.cells #[.int .u8 b.toNat] 5)) V2.heap.size b _ rfl (by simp)
  clear o5 gr
  have v0 : V2.cell? ⟨a, z, none⟩ = some (.string (strK k)) := dcr VB2.out
  have vf : V2.frozen? ⟨a, z, none⟩ = false := Part.free VB2.out z
  have hl2 : a < V2.heap.size := (Part.lt VB2.out)
  go_wp2_with fail
  obtain ⟨U, hU⟩ : ∃ U, U = (V2.setCell ⟨a, z, none⟩ (.string ⟨#[]⟩)).alloc (.cells #[.int .u8 b.toNat] 5) := ⟨_, rfl⟩
  have US : Hid (Stirs a z 1 w U) := Lib.hid (by rw [hU]; exact (VS2.out.set z _ (by omega)).alloc _ hl0.out)
  have UB : Hid (Part U a z #[.string ⟨#[]⟩]) := Lib.hid (by rw [hU]; exact Part.of_block (set0 VB2.out (.string ⟨#[]⟩) (by show 0 < 1; omega)) (Below.heap_alloc _ _ _ (by simpa using hl2)))
  have UO : Hid (OwnRunes U w.heap.size v5 [65533]) := Lib.hid (by rw [hU]; exact own_below (own_stirs' O5.out hl0.out ((Stirs.refl a z 1 V2).set z (.string ⟨#[]⟩) (by omega))) ((Below.refl _ _).alloc (Nat.le_refl _) _) (Nat.le_refl _))
  rw [← hU]
  clear hU hct hl2 v0 vf O5
  refine (show Calls _ _ _ _ _ from HB2.out U).mono ?_
  rintro e U1 ⟨rfl, hb⟩
  have US1 := Lib.hid (US.out.andthen hb US.out.size hl0.out)
  have UB1 := Lib.hid (Part.of_block UB.out (hb.block a (Part.lt UB.out)))
  have UO1 := Lib.hid (own_below UO.out hb (Nat.le_refl _))
  clear hb
  go_wp2_with (at_builtin; refine append_runes _ (by rfl) (.tmp 38) (.tmp 39) rfl w.heap.size _ _ _ _ rfl (own_below UO1.out ((Below.refl _ _).alloc (Nat.le_refl _) _) (Nat.le_refl _)) rfl (lit_runes U1 [65533]) (by decide) (by have := US1.out.size; simp; omega) ?_)
  intro v6 U3 o6 gr
  have FS : Hid (Stirs a z 1 w U3) := Lib.hid (US1.out.andthen (B := w.heap.size) (((Below.refl _ _).alloc US1.out.size _).grown gr (by have := US1.out.size; simp; omega) (fun g hg => own_ge UO1.out g hg)) (Nat.le_refl _) hl0.out)
  have FB : Hid (Part U3 a z #[.string ⟨#[]⟩]) := Lib.hid (Part.of_block UB1.out (by
    rw [gr.block a (by have := (Part.lt UB1.out); simp; omega) (fun e => own_apart' UO1.out hl0.out e.symm), Below.heap_alloc _ _ _ (Part.lt UB1.out)]))
  have FO := Lib.hid o6
  clear o6 gr
  go_wp2
  go_ret
  exact ⟨_, rfl, FO.out, ⟨FB.out, rfl⟩, FS.out⟩

set_option maxHeartbeats 1000000 in
theorem ref_C1 (a z : Nat) (k : List UInt8) (b : UInt8) (w : World) (h : IsRef w a z k) (hk : k ≠ []) (hB : BegIs (strK (k ++ [b])) 0) (hB2 : BegIs (strK [b]) 1) (hfk : fullB [b] = false) :
    Calls Tryd.prog 38 #[.pointer (some ⟨a, z, none⟩), .int .u8 b.toNat] w (RefPost w a z ([65533], [b])) := by
  have c0 : w.cell? ⟨a, z, none⟩ = some (.string (strK k)) := dcr h.blk
  have hct := byte_text (w.alloc (.cells #[.int .u8 b.toNat] 5)).drew w.heap.size b _ rfl (by simp)
  have hl : a < w.heap.size := (Part.lt h.blk)
  have n1 : ¬ 9223372036854775807 < (strK k).size + (strK [b]).size := by
    have h1 : (strK k).size = k.length := by simp [strK, ByteArray.size]
    have h2 : (strK [b]).size = 1 := rfl
    have := full_length h.ok
    omega
  have e0 : (strK k).toList.isEmpty = false := str_some hk
  have HB := Lib.hid hB
  have HB2 := Lib.hid hB2
  have HFK := Lib.hid hfk
  have HBlk := Lib.hid h.blk
  clear h hk hB hB2 hfk
  go_enter Tryd.func38, Tryd.ntmps38
  go_wp2
  go_region
  obtain ⟨V, hV⟩ : ∃ V, V = (w.alloc (.cells #[.int .u8 b.toNat] 5)).drew := ⟨_, rfl⟩
  have VS : Hid (Stirs a z 1 w V) := Lib.hid (by rw [hV]; exact ((Stirs.refl a z 1 w).alloc _ hl).drew)
  have VB : Hid (Part V a z #[.string (strK k)]) := Lib.hid (Part.of_block HBlk.out (by rw [hV, heap_drew, Below.heap_alloc _ _ _ hl]))
  have v0 : V.cell? ⟨a, z, none⟩ = some (.string (strK k)) := dcr VB.out
  have vf : V.frozen? ⟨a, z, none⟩ = false := Part.free VB.out z
  have hVl := Lib.hid (show w.heap.size ≤ V.heap.size from VS.out.size)
  obtain ⟨t, ht⟩ : ∃ t, t = strK k ++ strK [b] := ⟨_, rfl⟩
  have HT := Lib.hid (show t = strK (k ++ [b]) by rw [ht, str_cat])
  rw [← hV, ← ht]
  rw [← HT.out] at HB
  have hl0 := Lib.hid hl
  clear hV ht c0 hct n1 hl
  go_wp2_with fail
  refine (show Calls _ _ _ _ _ from HB.out V).mono ?_
  rintro e V1 ⟨rfl, hb⟩
  have VS1 := Lib.hid (VS.out.andthen hb VS.out.size hl0.out)
  have VB1 := Lib.hid (Part.of_block VB.out (hb.block a (Part.lt VB.out)))
  clear hb v0 vf
  go_wp2_with (at_builtin; refine append_runes _ (by rfl) (.tmp 25) (.tmp 26) rfl w.heap.size _ _ _ _ rfl (own_nil _ _) rfl (lit_runes V1 [65533]) (by decide) (by have := VS1.out.size; simp; omega) ?_)
  intro v5 V2 o5 gr
  have O5 := Lib.hid (show OwnRunes V2 w.heap.size v5 [65533] from o5)
  have GR : Hid (Below V1.heap.size V1 V2) := Lib.hid (((Below.refl _ _).alloc (Nat.le_refl _) _).grown gr (by simp) (fun g hg => by cases hg))
  have VS2 := Lib.hid (VS1.out.andthen GR.out VS1.out.size hl0.out)
  have VB2 := Lib.hid (Part.of_block VB1.out (GR.out.block a (Part.lt VB1.out)))
  have hct := byte_text (V2.alloc (.cells #[.int .u8 b.toNat] 5)) V2.heap.size b _ rfl (by simp)
  clear o5 gr
  have v0 : V2.cell? ⟨a, z, none⟩ = some (.string (strK k)) := dcr VB2.out
  have vf : V2.frozen? ⟨a, z, none⟩ = false := Part.free VB2.out z
  have hl2 : a < V2.heap.size := (Part.lt VB2.out)
  go_wp2_with fail
  obtain ⟨U, hU⟩ : ∃ U, U = (V2.setCell ⟨a, z, none⟩ (.string ⟨#[]⟩)).alloc (.cells #[.int .u8 b.toNat] 5) := ⟨_, rfl⟩
  have US : Hid (Stirs a z 1 w U) := Lib.hid (by rw [hU]; exact (VS2.out.set z _ (by omega)).alloc _ hl0.out)
  have UB : Hid (Part U a z #[.string ⟨#[]⟩]) := Lib.hid (by rw [hU]; exact Part.of_block (set0 VB2.out (.string ⟨#[]⟩) (by show 0 < 1; omega)) (Below.heap_alloc _ _ _ (by simpa using hl2)))
  have UO : Hid (OwnRunes U w.heap.size v5 [65533]) := Lib.hid (by rw [hU]; exact own_below (own_stirs' O5.out hl0.out ((Stirs.refl a z 1 V2).set z (.string ⟨#[]⟩) (by omega))) ((Below.refl _ _).alloc (Nat.le_refl _) _) (Nat.le_refl _))
  rw [← hU]
  clear hU hct hl2 v0 vf O5
  refine (show Calls _ _ _ _ _ from HB2.out U).mono ?_
  rintro e U1 ⟨rfl, hb⟩
  have US1 := Lib.hid (US.out.andthen hb US.out.size hl0.out)
  have UB1 := Lib.hid (Part.of_block UB.out (hb.block a (Part.lt UB.out)))
  have UO1 := Lib.hid (own_below UO.out hb (Nat.le_refl _))
  clear hb
  have u0 : U1.cell? ⟨a, z, none⟩ = some (.string ⟨#[]⟩) := dcr UB1.out
  have uf : U1.frozen? ⟨a, z, none⟩ = false := Part.free UB1.out z
  go_wp2
  go_ret
  refine ⟨_, rfl, own_stirs' UO1.out hl0.out ((Stirs.refl a z 1 U1).set z _ (by omega)), ⟨?_, HFK.out⟩, US1.out.set z _ (by omega)⟩
  exact set0 UB1.out (.string (strK [b])) (by show 0 < 1; omega)

set_option maxHeartbeats 1000000 in
theorem ref_C2 (a z : Nat) (k : List UInt8) (b : UInt8) (w : World) (h : IsRef w a z k) (hk : k ≠ []) (hB : BegIs (strK (k ++ [b])) 0) (hB2 : BegIs (strK [b]) 2) (r : Nat) (hR : NumIs (strK [b]) r) :
    Calls Tryd.prog 38 #[.pointer (some ⟨a, z, none⟩), .int .u8 b.toNat] w (RefPost w a z ([65533, r], [])) := by
  have c0 : w.cell? ⟨a, z, none⟩ = some (.string (strK k)) := dcr h.blk
  have hct := byte_text (w.alloc (.cells #[.int .u8 b.toNat] 5)).drew w.heap.size b _ rfl (by simp)
  have hl : a < w.heap.size := (Part.lt h.blk)
  have n1 : ¬ 9223372036854775807 < (strK k).size + (strK [b]).size := by
    have h1 : (strK k).size = k.length := by simp [strK, ByteArray.size]
    have h2 : (strK [b]).size = 1 := rfl
    have := full_length h.ok
    omega
  have e0 : (strK k).toList.isEmpty = false := str_some hk
  have HB := Lib.hid hB
  have HB2 := Lib.hid hB2
  have HR := Lib.hid hR
  have HBlk := Lib.hid h.blk
  clear h hk hB hB2 hR
  go_enter Tryd.func38, Tryd.ntmps38
  go_wp2
  go_region
  obtain ⟨V, hV⟩ : ∃ V, V = (w.alloc (.cells #[.int .u8 b.toNat] 5)).drew := ⟨_, rfl⟩
  have VS : Hid (Stirs a z 1 w V) := Lib.hid (by rw [hV]; exact ((Stirs.refl a z 1 w).alloc _ hl).drew)
  have VB : Hid (Part V a z #[.string (strK k)]) := Lib.hid (Part.of_block HBlk.out (by rw [hV, heap_drew, Below.heap_alloc _ _ _ hl]))
  have v0 : V.cell? ⟨a, z, none⟩ = some (.string (strK k)) := dcr VB.out
  have vf : V.frozen? ⟨a, z, none⟩ = false := Part.free VB.out z
  have hVl := Lib.hid (show w.heap.size ≤ V.heap.size from VS.out.size)
  obtain ⟨t, ht⟩ : ∃ t, t = strK k ++ strK [b] := ⟨_, rfl⟩
  have HT := Lib.hid (show t = strK (k ++ [b]) by rw [ht, str_cat])
  rw [← hV, ← ht]
  rw [← HT.out] at HB
  have hl0 := Lib.hid hl
  clear hV ht c0 hct n1 hl
  go_wp2_with fail
  refine (show Calls _ _ _ _ _ from HB.out V).mono ?_
  rintro e V1 ⟨rfl, hb⟩
  have VS1 := Lib.hid (VS.out.andthen hb VS.out.size hl0.out)
  have VB1 := Lib.hid (Part.of_block VB.out (hb.block a (Part.lt VB.out)))
  clear hb v0 vf
  go_wp2_with (at_builtin; refine append_runes _ (by rfl) (.tmp 25) (.tmp 26) rfl w.heap.size _ _ _ _ rfl (own_nil _ _) rfl (lit_runes V1 [65533]) (by decide) (by have := VS1.out.size; simp; omega) ?_)
  intro v5 V2 o5 gr
  have O5 := Lib.hid (show OwnRunes V2 w.heap.size v5 [65533] from o5)
  have GR : Hid (Below V1.heap.size V1 V2) := Lib.hid (((Below.refl _ _).alloc (Nat.le_refl _) _).grown gr (by simp) (fun g hg => by cases hg))
  have VS2 := Lib.hid (VS1.out.andthen GR.out VS1.out.size hl0.out)
  have VB2 := Lib.hid (Part.of_block VB1.out (GR.out.block a (Part.lt VB1.out)))
  have hct := byte_text (V2.alloc (.cells #[.int .u8 b.toNat] 5)) V2.heap.size b _ rfl (by simp)
  clear o5 gr
  have v0 : V2.cell? ⟨a, z, none⟩ = some (.string (strK k)) := dcr VB2.out
  have vf : V2.frozen? ⟨a, z, none⟩ = false := Part.free VB2.out z
  have hl2 : a < V2.heap.size := (Part.lt VB2.out)
  go_wp2_with fail
  obtain ⟨U, hU⟩ : ∃ U, U = (V2.setCell ⟨a, z, none⟩ (.string ⟨#[]⟩)).alloc (.cells #[.int .u8 b.toNat] 5) := ⟨_, rfl⟩
  have US : Hid (Stirs a z 1 w U) := Lib.hid (by rw [hU]; exact (VS2.out.set z _ (by omega)).alloc _ hl0.out)
  have UB : Hid (Part U a z #[.string ⟨#[]⟩]) := Lib.hid (by rw [hU]; exact Part.of_block (set0 VB2.out (.string ⟨#[]⟩) (by show 0 < 1; omega)) (Below.heap_alloc _ _ _ (by simpa using hl2)))
  have UO : Hid (OwnRunes U w.heap.size v5 [65533]) := Lib.hid (by rw [hU]; exact own_below (own_stirs' O5.out hl0.out ((Stirs.refl a z 1 V2).set z (.string ⟨#[]⟩) (by omega))) ((Below.refl _ _).alloc (Nat.le_refl _) _) (Nat.le_refl _))
  rw [← hU]
  clear hU hct hl2 v0 vf O5
  refine (show Calls _ _ _ _ _ from HB2.out U).mono ?_
  rintro e U1 ⟨rfl, hb⟩
  have US1 := Lib.hid (US.out.andthen hb US.out.size hl0.out)
  have UB1 := Lib.hid (Part.of_block UB.out (hb.block a (Part.lt UB.out)))
  have UO1 := Lib.hid (own_below UO.out hb (Nat.le_refl _))
  clear hb
  go_wp2_with fail
  refine (show Calls _ _ _ _ _ from HR.out U1).mono ?_
  rintro e U2 ⟨rfl, rfl⟩
  go_wp2_with (at_builtin; refine append_runes _ (by rfl) (.tmp 48) (.tmp 51) rfl w.heap.size _ _ _ _ rfl (own_below UO1.out ((Below.refl _ _).alloc (Nat.le_refl _) _) (Nat.le_refl _)) rfl (lit_runes U1 [r]) (by simp) (by have := US1.out.size; simp; omega) ?_)
  intro v6 U3 o6 gr
  have FS : Hid (Stirs a z 1 w U3) := Lib.hid (US1.out.andthen (B := w.heap.size) (((Below.refl _ _).alloc US1.out.size _).grown gr (by have := US1.out.size; simp; omega) (fun g hg => own_ge UO1.out g hg)) (Nat.le_refl _) hl0.out)
  have FB : Hid (Part U3 a z #[.string ⟨#[]⟩]) := Lib.hid (Part.of_block UB1.out (by
    rw [gr.block a (by have := (Part.lt UB1.out); simp; omega) (fun e => own_apart' UO1.out hl0.out e.symm), Below.heap_alloc _ _ _ (Part.lt UB1.out)]))
  have FO := Lib.hid o6
  clear o6 gr
  go_wp2
  go_ret
  exact ⟨_, rfl, FO.out, ⟨FB.out, rfl⟩, FS.out⟩


theorem str_list (l : List UInt8) : (strK l).data.toList = l := by simp [strK]
theorem str_size (l : List UInt8) : (strK l).size = l.length := by simp [strK, ByteArray.size]

theorem beg_is {l : List UInt8} {n : Nat} (hl : l.length ≤ 4) (h : begV l = n) : BegIs (strK l) n := by
  intro W
  have := begins_any (strK l) l (str_list l).symm (by rw [str_size]; omega) W
  rw [h] at this
  exact this
theorem num_is {l : List UInt8} (h1 : 1 ≤ l.length) (hl : l.length ≤ 4) : NumIs (strK l) (numV l) := fun W => number_any (strK l) l (str_list l).symm (by rw [str_size]; exact h1) (by rw [str_size]; exact hl) W

/-- The document's Byte. -/
theorem ref_byte (a z : Nat) (k : List UInt8) (b : UInt8) (w : World) (h : IsRef w a z k) :
    Calls Tryd.prog 38 #[.pointer (some ⟨a, z, none⟩), .int .u8 b.toNat] w (RefPost w a z (comes k b)) := by
  have h3 := full_length h.ok
  have hl : (k ++ [b]).length ≤ 4 := by simp; omega
  have h1 : 1 ≤ (k ++ [b]).length := by simp
  by_cases hk : k = []
  · have e : comes k b = anew b := by rw [hk, comes_nil]
    have e2 : k ++ [b] = [b] := by rw [hk]; rfl
    have hf : fullB (anew b).2 = false := anew_keeps b
    rw [e]
    rcases beg_one b with ⟨g1, g2⟩ | ⟨g1, g2⟩ | ⟨g1, g2⟩ <;> rw [g2] at hf ⊢ <;> rw [← e2] at g1
    · exact ref_A0 a z k b w h hk (beg_is hl g1)
    · have := ref_A1 a z k b w h hk (beg_is hl g1) (by rw [e2]; exact hf)
      rw [e2] at this
      exact this
    · have := ref_A2 a z k b w h hk (beg_is hl g1) (numV (k ++ [b])) (num_is h1 hl)
      rw [e2] at this
      exact this
  · rcases beg_more h.ok hk b with ⟨g1, g2⟩ | ⟨g1, g2⟩ | ⟨g1, g2⟩
    · rw [g2]
      have hf : fullB (anew b).2 = false := anew_keeps b
      rcases beg_one b with ⟨q1, q2⟩ | ⟨q1, q2⟩ | ⟨q1, q2⟩ <;> rw [q2] at hf ⊢
      · exact ref_C0 a z k b w h hk (beg_is hl g1) (beg_is (by simp) q1)
      · exact ref_C1 a z k b w h hk (beg_is hl g1) (beg_is (by simp) q1) hf
      · exact ref_C2 a z k b w h hk (beg_is hl g1) (beg_is (by simp) q1) _ (num_is (by simp) (by simp))
    · have hf := comes_keeps k b
      rw [g2] at hf ⊢
      exact ref_B1 a z k b w h hk (beg_is hl g1) hf
    · rw [g2]
      exact ref_B2 a z k b w h hk (beg_is hl g1) _ (num_is h1 hl)

end Go.Proofs.YtfekjlajagoooaaDoor.D5
