/- Layer 5: the document's decoder in memory: Byte, All. -/
import Derived.Test.YtbnclfelkdbbcaaDoorDcT
import Derived.Laws.IdiomStrings
import Derived.WalkLawsBesides
import Derived.Deep.RegionHeld3
namespace Go.Proofs.YtbnclfelkdbbcaaDoor
open Go.RowKit Go.Lib Dec

def strK (k : List UInt8) : ByteArray := ⟨k.toArray⟩

/-- The document's decoder in memory, that keeps k. -/
structure IsRef (w : World) (a : Nat) (k : List UInt8) : Prop where
  blk : w.heap[a]? = some (.cells #[.string (strK k)] 32 (0, 0))
  ok : fullB k = false

/-- string([]byte{b}). -/
theorem byte_text (W : World) (g : Nat) (b : UInt8) (c : Int) (hc : (b.toNat : Int) = c) (h : W.cell? ⟨g, 0, none⟩ = some (.int .u8 c)) : (convert 41 9 (.slice (some ⟨g, 0, none⟩) 1 1)).run Tryd.prog W = .ok (.string (strK [b])) W := by
  subst hc
  exact run_convert_bytes_back (P := Tryd.prog) _ 41 9 5 ⟨g, 0, none⟩ 1 [b] Tryd.underlying41 Tryd.underlying5 Tryd.underlying9 (fun j hj => by
    have hj0 : j = 0 := by simpa using hj
    subst hj0
    simpa [Addr.add] using h)

theorem str_cat (k : List UInt8) (b : UInt8) : strK k ++ strK [b] = strK (k ++ [b]) := by
  apply ByteArray.ext
  simp [strK, ByteArray.data_append]
theorem str_some {k : List UInt8} (h : k ≠ []) : (strK k).toList.isEmpty = false := by
  rw [Lib.toList_data]
  cases k with
  | nil => exact absurd rfl h
  | cons x k => rfl

/-- What the document's Byte answers: t is told, k is kept. -/
def RefPost (w : World) (a : Nat) (t : List Nat × List UInt8) (e : Ending) (w' : World) : Prop := ∃ v, e = .returned v ∧ OwnRunes w' w.heap.size v t.1 ∧ IsRef w' a t.2 ∧ Stirs a w w'
def BegIs (t : ByteArray) (n : Int) : Prop := ∀ W : World, Calls Tryd.prog 19 #[.string t] W fun e w' => e = .returned (.int .i64 n) ∧ Below W.heap.size W w'
def NumIs (t : ByteArray) (r : Nat) : Prop := ∀ W : World, Calls Tryd.prog 20 #[.string t] W fun e w' => e = .returned (.int .i32 (r : Nat)) ∧ W = w'

theorem own_nil (w : World) (B : Nat) : OwnRunes w B (.slice none 0 0) [] := ⟨rfl, Or.inl ⟨rfl, rfl⟩⟩

theorem str_none : (strK []).toList.isEmpty = true := by rw [Lib.toList_data]; rfl

set_option maxHeartbeats 1000000 in
theorem ref_A0 (a : Nat) (k : List UInt8) (b : UInt8) (w : World) (h : IsRef w a k) (hk : k = []) (hB : BegIs (strK (k ++ [b])) 0) :
    Calls Tryd.prog 13 #[.pointer (some ⟨a, 0, none⟩), .int .u8 b.toNat] w (RefPost w a ([65533], [])) := by
  have c0 : w.cell? ⟨a, 0, none⟩ = some (.string (strK k)) := by rw [cell_of h.blk]; rfl
  have hct := byte_text (w.alloc (.cells #[.int .u8 b.toNat] 5)).drew w.heap.size b _ rfl (by simp)
  have hl : a < w.heap.size := (Array.getElem?_eq_some_iff.1 h.blk).1
  have n1 : ¬ 9223372036854775807 < (strK k).size + (strK [b]).size := by
    have h1 : (strK k).size = k.length := by simp [strK, ByteArray.size]
    have h2 : (strK [b]).size = 1 := rfl
    have := full_length h.ok
    omega
  have e0 : (strK k).toList.isEmpty = true := by rw [hk]; exact str_none
  have HB := Lib.hid hB
  have HBlk := Lib.hid h.blk
  clear h hk hB
  go_enter Tryd.func13, Tryd.ntmps13
  go_wp2
  go_region
  obtain ⟨V, hV⟩ : ∃ V, V = (w.alloc (.cells #[.int .u8 b.toNat] 5)).drew := ⟨_, rfl⟩
  have VS : Hid (Stirs a w V) := Lib.hid (by rw [hV]; exact ((Stirs.refl a w).alloc _).drew)
  have VB : Hid (V.heap[a]? = some (.cells #[.string (strK k)] 32 (0, 0))) := Lib.hid (by rw [hV, heap_drew, Below.heap_alloc _ _ _ hl]; exact HBlk.out)
  have v0 : V.cell? ⟨a, 0, none⟩ = some (.string (strK k)) := by rw [cell_of VB.out]; rfl
  have vf : V.frozen? ⟨a, 0, none⟩ = false := free_of VB.out 0
  have hVl := Lib.hid (show w.heap.size ≤ V.heap.size from VS.out.size)
  obtain ⟨t, ht⟩ : ∃ t, t = strK k ++ strK [b] := ⟨_, rfl⟩
  have HT := Lib.hid (show t = strK (k ++ [b]) by rw [ht, str_cat])
  rw [← hV, ← ht]
  rw [← HT.out] at HB
  have hl0 := Lib.hid hl
  clear hV ht c0 hct n1 hl
  go_wp2_with fail
  obtain ⟨U, hU⟩ : ∃ U, U = V.setCell ⟨a, 0, none⟩ (.string ⟨#[]⟩) := ⟨_, rfl⟩
  have US : Hid (Stirs a w U) := Lib.hid (by rw [hU]; exact VS.out.set 0 _)
  have UB : Hid (U.heap[a]? = some (.cells #[.string ⟨#[]⟩] 32 (0, 0))) := Lib.hid (by rw [hU]; exact heap_setCell_same V a 0 _ _ (.string ⟨#[]⟩) VB.out)
  rw [← hU]
  clear hU v0 vf
  refine (show Calls _ _ _ _ _ from HB.out U).mono ?_
  rintro e U1 ⟨rfl, hb⟩
  have US1 := Lib.hid (US.out.then hb US.out.size)
  have UB1 := Lib.hid ((hb.block a (Array.getElem?_eq_some_iff.1 UB.out).1).trans UB.out)
  clear hb
  go_wp2_with (at_builtin; refine append_runes _ (by rfl) (.tmp 38) (.tmp 39) rfl w.heap.size _ _ _ _ rfl (own_nil _ _) rfl (lit_runes U1 [65533]) (by decide) (by have := US1.out.size; simp; omega) ?_)
  intro v6 U3 o6 gr
  have FS : Hid (Stirs a w U3) := Lib.hid (US1.out.then (B := w.heap.size) (((Below.refl _ _).alloc US1.out.size _).grown gr (by have := US1.out.size; simp; omega) (fun g hg => by cases hg)) (Nat.le_refl _))
  have FB : Hid (U3.heap[a]? = some (.cells #[.string ⟨#[]⟩] 32 (0, 0))) := Lib.hid (by
    rw [gr.block a (by have := (Array.getElem?_eq_some_iff.1 UB1.out).1; simp; omega) (fun e => by cases e), Below.heap_alloc _ _ _ (Array.getElem?_eq_some_iff.1 UB1.out).1]
    exact UB1.out)
  have FO := Lib.hid o6
  clear o6 gr
  go_wp2
  go_ret
  exact ⟨_, rfl, FO.out, ⟨FB.out, rfl⟩, FS.out⟩

set_option maxHeartbeats 1000000 in
theorem ref_A1 (a : Nat) (k : List UInt8) (b : UInt8) (w : World) (h : IsRef w a k) (hk : k = []) (hB : BegIs (strK (k ++ [b])) 1) (hfk : fullB (k ++ [b]) = false) :
    Calls Tryd.prog 13 #[.pointer (some ⟨a, 0, none⟩), .int .u8 b.toNat] w (RefPost w a ([], (k ++ [b]))) := by
  have c0 : w.cell? ⟨a, 0, none⟩ = some (.string (strK k)) := by rw [cell_of h.blk]; rfl
  have hct := byte_text (w.alloc (.cells #[.int .u8 b.toNat] 5)).drew w.heap.size b _ rfl (by simp)
  have hl : a < w.heap.size := (Array.getElem?_eq_some_iff.1 h.blk).1
  have n1 : ¬ 9223372036854775807 < (strK k).size + (strK [b]).size := by
    have h1 : (strK k).size = k.length := by simp [strK, ByteArray.size]
    have h2 : (strK [b]).size = 1 := rfl
    have := full_length h.ok
    omega
  have e0 : (strK k).toList.isEmpty = true := by rw [hk]; exact str_none
  have HB := Lib.hid hB
  have HFK := Lib.hid hfk
  have HBlk := Lib.hid h.blk
  clear h hk hB hfk
  go_enter Tryd.func13, Tryd.ntmps13
  go_wp2
  go_region
  obtain ⟨V, hV⟩ : ∃ V, V = (w.alloc (.cells #[.int .u8 b.toNat] 5)).drew := ⟨_, rfl⟩
  have VS : Hid (Stirs a w V) := Lib.hid (by rw [hV]; exact ((Stirs.refl a w).alloc _).drew)
  have VB : Hid (V.heap[a]? = some (.cells #[.string (strK k)] 32 (0, 0))) := Lib.hid (by rw [hV, heap_drew, Below.heap_alloc _ _ _ hl]; exact HBlk.out)
  have v0 : V.cell? ⟨a, 0, none⟩ = some (.string (strK k)) := by rw [cell_of VB.out]; rfl
  have vf : V.frozen? ⟨a, 0, none⟩ = false := free_of VB.out 0
  have hVl := Lib.hid (show w.heap.size ≤ V.heap.size from VS.out.size)
  obtain ⟨t, ht⟩ : ∃ t, t = strK k ++ strK [b] := ⟨_, rfl⟩
  have HT := Lib.hid (show t = strK (k ++ [b]) by rw [ht, str_cat])
  rw [← hV, ← ht]
  rw [← HT.out] at HB
  have hl0 := Lib.hid hl
  clear hV ht c0 hct n1 hl
  go_wp2_with fail
  obtain ⟨U, hU⟩ : ∃ U, U = V.setCell ⟨a, 0, none⟩ (.string ⟨#[]⟩) := ⟨_, rfl⟩
  have US : Hid (Stirs a w U) := Lib.hid (by rw [hU]; exact VS.out.set 0 _)
  have UB : Hid (U.heap[a]? = some (.cells #[.string ⟨#[]⟩] 32 (0, 0))) := Lib.hid (by rw [hU]; exact heap_setCell_same V a 0 _ _ (.string ⟨#[]⟩) VB.out)
  rw [← hU]
  clear hU v0 vf
  refine (show Calls _ _ _ _ _ from HB.out U).mono ?_
  rintro e U1 ⟨rfl, hb⟩
  have US1 := Lib.hid (US.out.then hb US.out.size)
  have UB1 := Lib.hid ((hb.block a (Array.getElem?_eq_some_iff.1 UB.out).1).trans UB.out)
  clear hb
  have u0 : U1.cell? ⟨a, 0, none⟩ = some (.string ⟨#[]⟩) := by rw [cell_of UB1.out]; rfl
  have uf : U1.frozen? ⟨a, 0, none⟩ = false := free_of UB1.out 0
  go_wp2
  go_ret
  refine ⟨_, rfl, own_nil _ _, ⟨?_, HFK.out⟩, US1.out.set 0 _⟩
  have := heap_setCell_same U1 a 0 _ _ (.string t) UB1.out
  rw [this]
  rw [HT.out]
  rfl

set_option maxHeartbeats 1000000 in
theorem ref_A2 (a : Nat) (k : List UInt8) (b : UInt8) (w : World) (h : IsRef w a k) (hk : k = []) (hB : BegIs (strK (k ++ [b])) 2) (r : Nat) (hR : NumIs (strK (k ++ [b])) r) :
    Calls Tryd.prog 13 #[.pointer (some ⟨a, 0, none⟩), .int .u8 b.toNat] w (RefPost w a ([r], [])) := by
  have c0 : w.cell? ⟨a, 0, none⟩ = some (.string (strK k)) := by rw [cell_of h.blk]; rfl
  have hct := byte_text (w.alloc (.cells #[.int .u8 b.toNat] 5)).drew w.heap.size b _ rfl (by simp)
  have hl : a < w.heap.size := (Array.getElem?_eq_some_iff.1 h.blk).1
  have n1 : ¬ 9223372036854775807 < (strK k).size + (strK [b]).size := by
    have h1 : (strK k).size = k.length := by simp [strK, ByteArray.size]
    have h2 : (strK [b]).size = 1 := rfl
    have := full_length h.ok
    omega
  have e0 : (strK k).toList.isEmpty = true := by rw [hk]; exact str_none
  have HB := Lib.hid hB
  have HR := Lib.hid hR
  have HBlk := Lib.hid h.blk
  clear h hk hB hR
  go_enter Tryd.func13, Tryd.ntmps13
  go_wp2
  go_region
  obtain ⟨V, hV⟩ : ∃ V, V = (w.alloc (.cells #[.int .u8 b.toNat] 5)).drew := ⟨_, rfl⟩
  have VS : Hid (Stirs a w V) := Lib.hid (by rw [hV]; exact ((Stirs.refl a w).alloc _).drew)
  have VB : Hid (V.heap[a]? = some (.cells #[.string (strK k)] 32 (0, 0))) := Lib.hid (by rw [hV, heap_drew, Below.heap_alloc _ _ _ hl]; exact HBlk.out)
  have v0 : V.cell? ⟨a, 0, none⟩ = some (.string (strK k)) := by rw [cell_of VB.out]; rfl
  have vf : V.frozen? ⟨a, 0, none⟩ = false := free_of VB.out 0
  have hVl := Lib.hid (show w.heap.size ≤ V.heap.size from VS.out.size)
  obtain ⟨t, ht⟩ : ∃ t, t = strK k ++ strK [b] := ⟨_, rfl⟩
  have HT := Lib.hid (show t = strK (k ++ [b]) by rw [ht, str_cat])
  rw [← hV, ← ht]
  rw [← HT.out] at HB HR
  have hl0 := Lib.hid hl
  clear hV ht c0 hct n1 hl
  go_wp2_with fail
  obtain ⟨U, hU⟩ : ∃ U, U = V.setCell ⟨a, 0, none⟩ (.string ⟨#[]⟩) := ⟨_, rfl⟩
  have US : Hid (Stirs a w U) := Lib.hid (by rw [hU]; exact VS.out.set 0 _)
  have UB : Hid (U.heap[a]? = some (.cells #[.string ⟨#[]⟩] 32 (0, 0))) := Lib.hid (by rw [hU]; exact heap_setCell_same V a 0 _ _ (.string ⟨#[]⟩) VB.out)
  rw [← hU]
  clear hU v0 vf
  refine (show Calls _ _ _ _ _ from HB.out U).mono ?_
  rintro e U1 ⟨rfl, hb⟩
  have US1 := Lib.hid (US.out.then hb US.out.size)
  have UB1 := Lib.hid ((hb.block a (Array.getElem?_eq_some_iff.1 UB.out).1).trans UB.out)
  clear hb
  go_wp2_with fail
  refine (show Calls _ _ _ _ _ from HR.out U1).mono ?_
  rintro e U2 ⟨rfl, rfl⟩
  go_wp2_with (at_builtin; refine append_runes _ (by rfl) (.tmp 48) (.tmp 51) rfl w.heap.size _ _ _ _ rfl (own_nil _ _) rfl (lit_runes U1 [r]) (by simp) (by have := US1.out.size; simp; omega) ?_)
  intro v6 U3 o6 gr
  have FS : Hid (Stirs a w U3) := Lib.hid (US1.out.then (B := w.heap.size) (((Below.refl _ _).alloc US1.out.size _).grown gr (by have := US1.out.size; simp; omega) (fun g hg => by cases hg)) (Nat.le_refl _))
  have FB : Hid (U3.heap[a]? = some (.cells #[.string ⟨#[]⟩] 32 (0, 0))) := Lib.hid (by
    rw [gr.block a (by have := (Array.getElem?_eq_some_iff.1 UB1.out).1; simp; omega) (fun e => by cases e), Below.heap_alloc _ _ _ (Array.getElem?_eq_some_iff.1 UB1.out).1]
    exact UB1.out)
  have FO := Lib.hid o6
  clear o6 gr
  go_wp2
  go_ret
  exact ⟨_, rfl, FO.out, ⟨FB.out, rfl⟩, FS.out⟩

set_option maxHeartbeats 1000000 in
theorem ref_B1 (a : Nat) (k : List UInt8) (b : UInt8) (w : World) (h : IsRef w a k) (hk : k ≠ []) (hB : BegIs (strK (k ++ [b])) 1) (hfk : fullB (k ++ [b]) = false) :
    Calls Tryd.prog 13 #[.pointer (some ⟨a, 0, none⟩), .int .u8 b.toNat] w (RefPost w a ([], (k ++ [b]))) := by
  have c0 : w.cell? ⟨a, 0, none⟩ = some (.string (strK k)) := by rw [cell_of h.blk]; rfl
  have hct := byte_text (w.alloc (.cells #[.int .u8 b.toNat] 5)).drew w.heap.size b _ rfl (by simp)
  have hl : a < w.heap.size := (Array.getElem?_eq_some_iff.1 h.blk).1
  have n1 : ¬ 9223372036854775807 < (strK k).size + (strK [b]).size := by
    have h1 : (strK k).size = k.length := by simp [strK, ByteArray.size]
    have h2 : (strK [b]).size = 1 := rfl
    have := full_length h.ok
    omega
  have e0 : (strK k).toList.isEmpty = false := str_some hk
  have HB := Lib.hid hB
  have HFK := Lib.hid hfk
  have HBlk := Lib.hid h.blk
  clear h hk hB hfk
  go_enter Tryd.func13, Tryd.ntmps13
  go_wp2
  go_region
  obtain ⟨V, hV⟩ : ∃ V, V = (w.alloc (.cells #[.int .u8 b.toNat] 5)).drew := ⟨_, rfl⟩
  have VS : Hid (Stirs a w V) := Lib.hid (by rw [hV]; exact ((Stirs.refl a w).alloc _).drew)
  have VB : Hid (V.heap[a]? = some (.cells #[.string (strK k)] 32 (0, 0))) := Lib.hid (by rw [hV, heap_drew, Below.heap_alloc _ _ _ hl]; exact HBlk.out)
  have v0 : V.cell? ⟨a, 0, none⟩ = some (.string (strK k)) := by rw [cell_of VB.out]; rfl
  have vf : V.frozen? ⟨a, 0, none⟩ = false := free_of VB.out 0
  have hVl := Lib.hid (show w.heap.size ≤ V.heap.size from VS.out.size)
  obtain ⟨t, ht⟩ : ∃ t, t = strK k ++ strK [b] := ⟨_, rfl⟩
  have HT := Lib.hid (show t = strK (k ++ [b]) by rw [ht, str_cat])
  rw [← hV, ← ht]
  rw [← HT.out] at HB
  have hl0 := Lib.hid hl
  clear hV ht c0 hct n1 hl
  go_wp2_with fail
  refine (show Calls _ _ _ _ _ from HB.out V).mono ?_
  rintro e V1 ⟨rfl, hb⟩
  have VS1 := Lib.hid (VS.out.then hb VS.out.size)
  have VB1 := Lib.hid ((hb.block a (Array.getElem?_eq_some_iff.1 VB.out).1).trans VB.out)
  clear hb v0 vf
  have v0 : V1.cell? ⟨a, 0, none⟩ = some (.string (strK k)) := by rw [cell_of VB1.out]; rfl
  have vf : V1.frozen? ⟨a, 0, none⟩ = false := free_of VB1.out 0
  go_wp2_with fail
  obtain ⟨U, hU⟩ : ∃ U, U = V1.setCell ⟨a, 0, none⟩ (.string ⟨#[]⟩) := ⟨_, rfl⟩
  have US : Hid (Stirs a w U) := Lib.hid (by rw [hU]; exact VS1.out.set 0 _)
  have UB : Hid (U.heap[a]? = some (.cells #[.string ⟨#[]⟩] 32 (0, 0))) := Lib.hid (by rw [hU]; exact heap_setCell_same V1 a 0 _ _ (.string ⟨#[]⟩) VB1.out)
  rw [← hU]
  clear hU v0 vf
  refine (show Calls _ _ _ _ _ from HB.out U).mono ?_
  rintro e U1 ⟨rfl, hb⟩
  have US1 := Lib.hid (US.out.then hb US.out.size)
  have UB1 := Lib.hid ((hb.block a (Array.getElem?_eq_some_iff.1 UB.out).1).trans UB.out)
  clear hb
  have u0 : U1.cell? ⟨a, 0, none⟩ = some (.string ⟨#[]⟩) := by rw [cell_of UB1.out]; rfl
  have uf : U1.frozen? ⟨a, 0, none⟩ = false := free_of UB1.out 0
  go_wp2
  go_ret
  refine ⟨_, rfl, own_nil _ _, ⟨?_, HFK.out⟩, US1.out.set 0 _⟩
  have := heap_setCell_same U1 a 0 _ _ (.string t) UB1.out
  rw [this]
  rw [HT.out]
  rfl

set_option maxHeartbeats 1000000 in
theorem ref_B2 (a : Nat) (k : List UInt8) (b : UInt8) (w : World) (h : IsRef w a k) (hk : k ≠ []) (hB : BegIs (strK (k ++ [b])) 2) (r : Nat) (hR : NumIs (strK (k ++ [b])) r) :
    Calls Tryd.prog 13 #[.pointer (some ⟨a, 0, none⟩), .int .u8 b.toNat] w (RefPost w a ([r], [])) := by
  have c0 : w.cell? ⟨a, 0, none⟩ = some (.string (strK k)) := by rw [cell_of h.blk]; rfl
  have hct := byte_text (w.alloc (.cells #[.int .u8 b.toNat] 5)).drew w.heap.size b _ rfl (by simp)
  have hl : a < w.heap.size := (Array.getElem?_eq_some_iff.1 h.blk).1
  have n1 : ¬ 9223372036854775807 < (strK k).size + (strK [b]).size := by
    have h1 : (strK k).size = k.length := by simp [strK, ByteArray.size]
    have h2 : (strK [b]).size = 1 := rfl
    have := full_length h.ok
    omega
  have e0 : (strK k).toList.isEmpty = false := str_some hk
  have HB := Lib.hid hB
  have HR := Lib.hid hR
  have HBlk := Lib.hid h.blk
  clear h hk hB hR
  go_enter Tryd.func13, Tryd.ntmps13
  go_wp2
  go_region
  obtain ⟨V, hV⟩ : ∃ V, V = (w.alloc (.cells #[.int .u8 b.toNat] 5)).drew := ⟨_, rfl⟩
  have VS : Hid (Stirs a w V) := Lib.hid (by rw [hV]; exact ((Stirs.refl a w).alloc _).drew)
  have VB : Hid (V.heap[a]? = some (.cells #[.string (strK k)] 32 (0, 0))) := Lib.hid (by rw [hV, heap_drew, Below.heap_alloc _ _ _ hl]; exact HBlk.out)
  have v0 : V.cell? ⟨a, 0, none⟩ = some (.string (strK k)) := by rw [cell_of VB.out]; rfl
  have vf : V.frozen? ⟨a, 0, none⟩ = false := free_of VB.out 0
  have hVl := Lib.hid (show w.heap.size ≤ V.heap.size from VS.out.size)
  obtain ⟨t, ht⟩ : ∃ t, t = strK k ++ strK [b] := ⟨_, rfl⟩
  have HT := Lib.hid (show t = strK (k ++ [b]) by rw [ht, str_cat])
  rw [← hV, ← ht]
  rw [← HT.out] at HB HR
  have hl0 := Lib.hid hl
  clear hV ht c0 hct n1 hl
  go_wp2_with fail
  refine (show Calls _ _ _ _ _ from HB.out V).mono ?_
  rintro e V1 ⟨rfl, hb⟩
  have VS1 := Lib.hid (VS.out.then hb VS.out.size)
  have VB1 := Lib.hid ((hb.block a (Array.getElem?_eq_some_iff.1 VB.out).1).trans VB.out)
  clear hb v0 vf
  have v0 : V1.cell? ⟨a, 0, none⟩ = some (.string (strK k)) := by rw [cell_of VB1.out]; rfl
  have vf : V1.frozen? ⟨a, 0, none⟩ = false := free_of VB1.out 0
  go_wp2_with fail
  obtain ⟨U, hU⟩ : ∃ U, U = V1.setCell ⟨a, 0, none⟩ (.string ⟨#[]⟩) := ⟨_, rfl⟩
  have US : Hid (Stirs a w U) := Lib.hid (by rw [hU]; exact VS1.out.set 0 _)
  have UB : Hid (U.heap[a]? = some (.cells #[.string ⟨#[]⟩] 32 (0, 0))) := Lib.hid (by rw [hU]; exact heap_setCell_same V1 a 0 _ _ (.string ⟨#[]⟩) VB1.out)
  rw [← hU]
  clear hU v0 vf
  refine (show Calls _ _ _ _ _ from HB.out U).mono ?_
  rintro e U1 ⟨rfl, hb⟩
  have US1 := Lib.hid (US.out.then hb US.out.size)
  have UB1 := Lib.hid ((hb.block a (Array.getElem?_eq_some_iff.1 UB.out).1).trans UB.out)
  clear hb
  go_wp2_with fail
  refine (show Calls _ _ _ _ _ from HR.out U1).mono ?_
  rintro e U2 ⟨rfl, rfl⟩
  go_wp2_with (at_builtin; refine append_runes _ (by rfl) (.tmp 48) (.tmp 51) rfl w.heap.size _ _ _ _ rfl (own_nil _ _) rfl (lit_runes U1 [r]) (by simp) (by have := US1.out.size; simp; omega) ?_)
  intro v6 U3 o6 gr
  have FS : Hid (Stirs a w U3) := Lib.hid (US1.out.then (B := w.heap.size) (((Below.refl _ _).alloc US1.out.size _).grown gr (by have := US1.out.size; simp; omega) (fun g hg => by cases hg)) (Nat.le_refl _))
  have FB : Hid (U3.heap[a]? = some (.cells #[.string ⟨#[]⟩] 32 (0, 0))) := Lib.hid (by
    rw [gr.block a (by have := (Array.getElem?_eq_some_iff.1 UB1.out).1; simp; omega) (fun e => by cases e), Below.heap_alloc _ _ _ (Array.getElem?_eq_some_iff.1 UB1.out).1]
    exact UB1.out)
  have FO := Lib.hid o6
  clear o6 gr
  go_wp2
  go_ret
  exact ⟨_, rfl, FO.out, ⟨FB.out, rfl⟩, FS.out⟩

set_option maxHeartbeats 1000000 in
theorem ref_C0 (a : Nat) (k : List UInt8) (b : UInt8) (w : World) (h : IsRef w a k) (hk : k ≠ []) (hB : BegIs (strK (k ++ [b])) 0) (hB2 : BegIs (strK [b]) 0) :
    Calls Tryd.prog 13 #[.pointer (some ⟨a, 0, none⟩), .int .u8 b.toNat] w (RefPost w a ([65533, 65533], [])) := by
  have c0 : w.cell? ⟨a, 0, none⟩ = some (.string (strK k)) := by rw [cell_of h.blk]; rfl
  have hct := byte_text (w.alloc (.cells #[.int .u8 b.toNat] 5)).drew w.heap.size b _ rfl (by simp)
  have hl : a < w.heap.size := (Array.getElem?_eq_some_iff.1 h.blk).1
  have n1 : ¬ 9223372036854775807 < (strK k).size + (strK [b]).size := by
    have h1 : (strK k).size = k.length := by simp [strK, ByteArray.size]
    have h2 : (strK [b]).size = 1 := rfl
    have := full_length h.ok
    omega
  have e0 : (strK k).toList.isEmpty = false := str_some hk
  have HB := Lib.hid hB
  have HB2 := Lib.hid hB2
  have HBlk := Lib.hid h.blk
  clear h hk hB hB2
  go_enter Tryd.func13, Tryd.ntmps13
  go_wp2
  go_region
  obtain ⟨V, hV⟩ : ∃ V, V = (w.alloc (.cells #[.int .u8 b.toNat] 5)).drew := ⟨_, rfl⟩
  have VS : Hid (Stirs a w V) := Lib.hid (by rw [hV]; exact ((Stirs.refl a w).alloc _).drew)
  have VB : Hid (V.heap[a]? = some (.cells #[.string (strK k)] 32 (0, 0))) := Lib.hid (by rw [hV, heap_drew, Below.heap_alloc _ _ _ hl]; exact HBlk.out)
  have v0 : V.cell? ⟨a, 0, none⟩ = some (.string (strK k)) := by rw [cell_of VB.out]; rfl
  have vf : V.frozen? ⟨a, 0, none⟩ = false := free_of VB.out 0
  have hVl := Lib.hid (show w.heap.size ≤ V.heap.size from VS.out.size)
  obtain ⟨t, ht⟩ : ∃ t, t = strK k ++ strK [b] := ⟨_, rfl⟩
  have HT := Lib.hid (show t = strK (k ++ [b]) by rw [ht, str_cat])
  rw [← hV, ← ht]
  rw [← HT.out] at HB
  have hl0 := Lib.hid hl
  clear hV ht c0 hct n1 hl
  go_wp2_with fail
  refine (show Calls _ _ _ _ _ from HB.out V).mono ?_
  rintro e V1 ⟨rfl, hb⟩
  have VS1 := Lib.hid (VS.out.then hb VS.out.size)
  have VB1 := Lib.hid ((hb.block a (Array.getElem?_eq_some_iff.1 VB.out).1).trans VB.out)
  clear hb v0 vf
  go_wp2_with (at_builtin; refine append_runes _ (by rfl) (.tmp 25) (.tmp 26) rfl w.heap.size _ _ _ _ rfl (own_nil _ _) rfl (lit_runes V1 [65533]) (by decide) (by have := VS1.out.size; simp; omega) ?_)
  intro v5 V2 o5 gr
  have O5 := Lib.hid (show OwnRunes V2 w.heap.size v5 [65533] from o5)
  have GR : Hid (Below V1.heap.size V1 V2) := Lib.hid (((Below.refl _ _).alloc (Nat.le_refl _) _).grown gr (by simp) (fun g hg => by cases hg))
  have VS2 := Lib.hid (VS1.out.then GR.out VS1.out.size)
  have VB2 := Lib.hid ((GR.out.block a (Array.getElem?_eq_some_iff.1 VB1.out).1).trans VB1.out)
  have hct := byte_text (V2.alloc (.cells #[.int .u8 b.toNat] 5)) V2.heap.size b _ rfl (by simp)
  clear o5 gr
  have v0 : V2.cell? ⟨a, 0, none⟩ = some (.string (strK k)) := by rw [cell_of VB2.out]; rfl
  have vf : V2.frozen? ⟨a, 0, none⟩ = false := free_of VB2.out 0
  have hl2 : a < V2.heap.size := (Array.getElem?_eq_some_iff.1 VB2.out).1
  go_wp2_with fail
  obtain ⟨U, hU⟩ : ∃ U, U = (V2.setCell ⟨a, 0, none⟩ (.string ⟨#[]⟩)).alloc (.cells #[.int .u8 b.toNat] 5) := ⟨_, rfl⟩
  have US : Hid (Stirs a w U) := Lib.hid (by rw [hU]; exact (VS2.out.set 0 _).alloc _)
  have UB : Hid (U.heap[a]? = some (.cells #[.string ⟨#[]⟩] 32 (0, 0))) := Lib.hid (by rw [hU, Below.heap_alloc _ _ _ (by simpa using hl2)]; exact heap_setCell_same V2 a 0 _ _ (.string ⟨#[]⟩) VB2.out)
  have UO : Hid (OwnRunes U w.heap.size v5 [65533]) := Lib.hid (by rw [hU]; exact own_below (own_stirs O5.out VB2.out (by decide) ((Stirs.refl a V2).set 0 (.string ⟨#[]⟩))) ((Below.refl _ _).alloc (Nat.le_refl _) _) (Nat.le_refl _))
  rw [← hU]
  clear hU hct hl2 v0 vf O5
  refine (show Calls _ _ _ _ _ from HB2.out U).mono ?_
  rintro e U1 ⟨rfl, hb⟩
  have US1 := Lib.hid (US.out.then hb US.out.size)
  have UB1 := Lib.hid ((hb.block a (Array.getElem?_eq_some_iff.1 UB.out).1).trans UB.out)
  have UO1 := Lib.hid (own_below UO.out hb (Nat.le_refl _))
  clear hb
  go_wp2_with (at_builtin; refine append_runes _ (by rfl) (.tmp 38) (.tmp 39) rfl w.heap.size _ _ _ _ rfl (own_below UO1.out ((Below.refl _ _).alloc (Nat.le_refl _) _) (Nat.le_refl _)) rfl (lit_runes U1 [65533]) (by decide) (by have := US1.out.size; simp; omega) ?_)
  intro v6 U3 o6 gr
  have FS : Hid (Stirs a w U3) := Lib.hid (US1.out.then (B := w.heap.size) (((Below.refl _ _).alloc US1.out.size _).grown gr (by have := US1.out.size; simp; omega) (fun g hg => own_ge UO1.out g hg)) (Nat.le_refl _))
  have FB : Hid (U3.heap[a]? = some (.cells #[.string ⟨#[]⟩] 32 (0, 0))) := Lib.hid (by
    rw [gr.block a (by have := (Array.getElem?_eq_some_iff.1 UB1.out).1; simp; omega) (fun e => own_apart UO1.out UB1.out (by decide) e.symm), Below.heap_alloc _ _ _ (Array.getElem?_eq_some_iff.1 UB1.out).1]
    exact UB1.out)
  have FO := Lib.hid o6
  clear o6 gr
  go_wp2
  go_ret
  exact ⟨_, rfl, FO.out, ⟨FB.out, rfl⟩, FS.out⟩

set_option maxHeartbeats 1000000 in
theorem ref_C1 (a : Nat) (k : List UInt8) (b : UInt8) (w : World) (h : IsRef w a k) (hk : k ≠ []) (hB : BegIs (strK (k ++ [b])) 0) (hB2 : BegIs (strK [b]) 1) (hfk : fullB [b] = false) :
    Calls Tryd.prog 13 #[.pointer (some ⟨a, 0, none⟩), .int .u8 b.toNat] w (RefPost w a ([65533], [b])) := by
  have c0 : w.cell? ⟨a, 0, none⟩ = some (.string (strK k)) := by rw [cell_of h.blk]; rfl
  have hct := byte_text (w.alloc (.cells #[.int .u8 b.toNat] 5)).drew w.heap.size b _ rfl (by simp)
  have hl : a < w.heap.size := (Array.getElem?_eq_some_iff.1 h.blk).1
  have n1 : ¬ 9223372036854775807 < (strK k).size + (strK [b]).size := by
    have h1 : (strK k).size = k.length := by simp [strK, ByteArray.size]
    have h2 : (strK [b]).size = 1 := rfl
    have := full_length h.ok
    omega
  have e0 : (strK k).toList.isEmpty = false := str_some hk
  have HB := Lib.hid hB
  have HB2 := Lib.hid hB2
  have HFK := Lib.hid hfk
  have HBlk := Lib.hid h.blk
  clear h hk hB hB2 hfk
  go_enter Tryd.func13, Tryd.ntmps13
  go_wp2
  go_region
  obtain ⟨V, hV⟩ : ∃ V, V = (w.alloc (.cells #[.int .u8 b.toNat] 5)).drew := ⟨_, rfl⟩
  have VS : Hid (Stirs a w V) := Lib.hid (by rw [hV]; exact ((Stirs.refl a w).alloc _).drew)
  have VB : Hid (V.heap[a]? = some (.cells #[.string (strK k)] 32 (0, 0))) := Lib.hid (by rw [hV, heap_drew, Below.heap_alloc _ _ _ hl]; exact HBlk.out)
  have v0 : V.cell? ⟨a, 0, none⟩ = some (.string (strK k)) := by rw [cell_of VB.out]; rfl
  have vf : V.frozen? ⟨a, 0, none⟩ = false := free_of VB.out 0
  have hVl := Lib.hid (show w.heap.size ≤ V.heap.size from VS.out.size)
  obtain ⟨t, ht⟩ : ∃ t, t = strK k ++ strK [b] := ⟨_, rfl⟩
  have HT := Lib.hid (show t = strK (k ++ [b]) by rw [ht, str_cat])
  rw [← hV, ← ht]
  rw [← HT.out] at HB
  have hl0 := Lib.hid hl
  clear hV ht c0 hct n1 hl
  go_wp2_with fail
  refine (show Calls _ _ _ _ _ from HB.out V).mono ?_
  rintro e V1 ⟨rfl, hb⟩
  have VS1 := Lib.hid (VS.out.then hb VS.out.size)
  have VB1 := Lib.hid ((hb.block a (Array.getElem?_eq_some_iff.1 VB.out).1).trans VB.out)
  clear hb v0 vf
  go_wp2_with (at_builtin; refine append_runes _ (by rfl) (.tmp 25) (.tmp 26) rfl w.heap.size _ _ _ _ rfl (own_nil _ _) rfl (lit_runes V1 [65533]) (by decide) (by have := VS1.out.size; simp; omega) ?_)
  intro v5 V2 o5 gr
  have O5 := Lib.hid (show OwnRunes V2 w.heap.size v5 [65533] from o5)
  have GR : Hid (Below V1.heap.size V1 V2) := Lib.hid (((Below.refl _ _).alloc (Nat.le_refl _) _).grown gr (by simp) (fun g hg => by cases hg))
  have VS2 := Lib.hid (VS1.out.then GR.out VS1.out.size)
  have VB2 := Lib.hid ((GR.out.block a (Array.getElem?_eq_some_iff.1 VB1.out).1).trans VB1.out)
  have hct := byte_text (V2.alloc (.cells #[.int .u8 b.toNat] 5)) V2.heap.size b _ rfl (by simp)
  clear o5 gr
  have v0 : V2.cell? ⟨a, 0, none⟩ = some (.string (strK k)) := by rw [cell_of VB2.out]; rfl
  have vf : V2.frozen? ⟨a, 0, none⟩ = false := free_of VB2.out 0
  have hl2 : a < V2.heap.size := (Array.getElem?_eq_some_iff.1 VB2.out).1
  go_wp2_with fail
  obtain ⟨U, hU⟩ : ∃ U, U = (V2.setCell ⟨a, 0, none⟩ (.string ⟨#[]⟩)).alloc (.cells #[.int .u8 b.toNat] 5) := ⟨_, rfl⟩
  have US : Hid (Stirs a w U) := Lib.hid (by rw [hU]; exact (VS2.out.set 0 _).alloc _)
  have UB : Hid (U.heap[a]? = some (.cells #[.string ⟨#[]⟩] 32 (0, 0))) := Lib.hid (by rw [hU, Below.heap_alloc _ _ _ (by simpa using hl2)]; exact heap_setCell_same V2 a 0 _ _ (.string ⟨#[]⟩) VB2.out)
  have UO : Hid (OwnRunes U w.heap.size v5 [65533]) := Lib.hid (by rw [hU]; exact own_below (own_stirs O5.out VB2.out (by decide) ((Stirs.refl a V2).set 0 (.string ⟨#[]⟩))) ((Below.refl _ _).alloc (Nat.le_refl _) _) (Nat.le_refl _))
  rw [← hU]
  clear hU hct hl2 v0 vf O5
  refine (show Calls _ _ _ _ _ from HB2.out U).mono ?_
  rintro e U1 ⟨rfl, hb⟩
  have US1 := Lib.hid (US.out.then hb US.out.size)
  have UB1 := Lib.hid ((hb.block a (Array.getElem?_eq_some_iff.1 UB.out).1).trans UB.out)
  have UO1 := Lib.hid (own_below UO.out hb (Nat.le_refl _))
  clear hb
  have u0 : U1.cell? ⟨a, 0, none⟩ = some (.string ⟨#[]⟩) := by rw [cell_of UB1.out]; rfl
  have uf : U1.frozen? ⟨a, 0, none⟩ = false := free_of UB1.out 0
  go_wp2
  go_ret
  refine ⟨_, rfl, own_stirs UO1.out UB1.out (by decide) ((Stirs.refl a U1).set 0 _), ⟨?_, HFK.out⟩, US1.out.set 0 _⟩
  have := heap_setCell_same U1 a 0 _ _ (.string (strK [b])) UB1.out
  rw [this]
  rfl

set_option maxHeartbeats 1000000 in
theorem ref_C2 (a : Nat) (k : List UInt8) (b : UInt8) (w : World) (h : IsRef w a k) (hk : k ≠ []) (hB : BegIs (strK (k ++ [b])) 0) (hB2 : BegIs (strK [b]) 2) (r : Nat) (hR : NumIs (strK [b]) r) :
    Calls Tryd.prog 13 #[.pointer (some ⟨a, 0, none⟩), .int .u8 b.toNat] w (RefPost w a ([65533, r], [])) := by
  have c0 : w.cell? ⟨a, 0, none⟩ = some (.string (strK k)) := by rw [cell_of h.blk]; rfl
  have hct := byte_text (w.alloc (.cells #[.int .u8 b.toNat] 5)).drew w.heap.size b _ rfl (by simp)
  have hl : a < w.heap.size := (Array.getElem?_eq_some_iff.1 h.blk).1
  have n1 : ¬ 9223372036854775807 < (strK k).size + (strK [b]).size := by
    have h1 : (strK k).size = k.length := by simp [strK, ByteArray.size]
    have h2 : (strK [b]).size = 1 := rfl
    have := full_length h.ok
    omega
  have e0 : (strK k).toList.isEmpty = false := str_some hk
  have HB := Lib.hid hB
  have HB2 := Lib.hid hB2
  have HR := Lib.hid hR
  have HBlk := Lib.hid h.blk
  clear h hk hB hB2 hR
  go_enter Tryd.func13, Tryd.ntmps13
  go_wp2
  go_region
  obtain ⟨V, hV⟩ : ∃ V, V = (w.alloc (.cells #[.int .u8 b.toNat] 5)).drew := ⟨_, rfl⟩
  have VS : Hid (Stirs a w V) := Lib.hid (by rw [hV]; exact ((Stirs.refl a w).alloc _).drew)
  have VB : Hid (V.heap[a]? = some (.cells #[.string (strK k)] 32 (0, 0))) := Lib.hid (by rw [hV, heap_drew, Below.heap_alloc _ _ _ hl]; exact HBlk.out)
  have v0 : V.cell? ⟨a, 0, none⟩ = some (.string (strK k)) := by rw [cell_of VB.out]; rfl
  have vf : V.frozen? ⟨a, 0, none⟩ = false := free_of VB.out 0
  have hVl := Lib.hid (show w.heap.size ≤ V.heap.size from VS.out.size)
  obtain ⟨t, ht⟩ : ∃ t, t = strK k ++ strK [b] := ⟨_, rfl⟩
  have HT := Lib.hid (show t = strK (k ++ [b]) by rw [ht, str_cat])
  rw [← hV, ← ht]
  rw [← HT.out] at HB
  have hl0 := Lib.hid hl
  clear hV ht c0 hct n1 hl
  go_wp2_with fail
  refine (show Calls _ _ _ _ _ from HB.out V).mono ?_
  rintro e V1 ⟨rfl, hb⟩
  have VS1 := Lib.hid (VS.out.then hb VS.out.size)
  have VB1 := Lib.hid ((hb.block a (Array.getElem?_eq_some_iff.1 VB.out).1).trans VB.out)
  clear hb v0 vf
  go_wp2_with (at_builtin; refine append_runes _ (by rfl) (.tmp 25) (.tmp 26) rfl w.heap.size _ _ _ _ rfl (own_nil _ _) rfl (lit_runes V1 [65533]) (by decide) (by have := VS1.out.size; simp; omega) ?_)
  intro v5 V2 o5 gr
  have O5 := Lib.hid (show OwnRunes V2 w.heap.size v5 [65533] from o5)
  have GR : Hid (Below V1.heap.size V1 V2) := Lib.hid (((Below.refl _ _).alloc (Nat.le_refl _) _).grown gr (by simp) (fun g hg => by cases hg))
  have VS2 := Lib.hid (VS1.out.then GR.out VS1.out.size)
  have VB2 := Lib.hid ((GR.out.block a (Array.getElem?_eq_some_iff.1 VB1.out).1).trans VB1.out)
  have hct := byte_text (V2.alloc (.cells #[.int .u8 b.toNat] 5)) V2.heap.size b _ rfl (by simp)
  clear o5 gr
  have v0 : V2.cell? ⟨a, 0, none⟩ = some (.string (strK k)) := by rw [cell_of VB2.out]; rfl
  have vf : V2.frozen? ⟨a, 0, none⟩ = false := free_of VB2.out 0
  have hl2 : a < V2.heap.size := (Array.getElem?_eq_some_iff.1 VB2.out).1
  go_wp2_with fail
  obtain ⟨U, hU⟩ : ∃ U, U = (V2.setCell ⟨a, 0, none⟩ (.string ⟨#[]⟩)).alloc (.cells #[.int .u8 b.toNat] 5) := ⟨_, rfl⟩
  have US : Hid (Stirs a w U) := Lib.hid (by rw [hU]; exact (VS2.out.set 0 _).alloc _)
  have UB : Hid (U.heap[a]? = some (.cells #[.string ⟨#[]⟩] 32 (0, 0))) := Lib.hid (by rw [hU, Below.heap_alloc _ _ _ (by simpa using hl2)]; exact heap_setCell_same V2 a 0 _ _ (.string ⟨#[]⟩) VB2.out)
  have UO : Hid (OwnRunes U w.heap.size v5 [65533]) := Lib.hid (by rw [hU]; exact own_below (own_stirs O5.out VB2.out (by decide) ((Stirs.refl a V2).set 0 (.string ⟨#[]⟩))) ((Below.refl _ _).alloc (Nat.le_refl _) _) (Nat.le_refl _))
  rw [← hU]
  clear hU hct hl2 v0 vf O5
  refine (show Calls _ _ _ _ _ from HB2.out U).mono ?_
  rintro e U1 ⟨rfl, hb⟩
  have US1 := Lib.hid (US.out.then hb US.out.size)
  have UB1 := Lib.hid ((hb.block a (Array.getElem?_eq_some_iff.1 UB.out).1).trans UB.out)
  have UO1 := Lib.hid (own_below UO.out hb (Nat.le_refl _))
  clear hb
  go_wp2_with fail
  refine (show Calls _ _ _ _ _ from HR.out U1).mono ?_
  rintro e U2 ⟨rfl, rfl⟩
  go_wp2_with (at_builtin; refine append_runes _ (by rfl) (.tmp 48) (.tmp 51) rfl w.heap.size _ _ _ _ rfl (own_below UO1.out ((Below.refl _ _).alloc (Nat.le_refl _) _) (Nat.le_refl _)) rfl (lit_runes U1 [r]) (by simp) (by have := US1.out.size; simp; omega) ?_)
  intro v6 U3 o6 gr
  have FS : Hid (Stirs a w U3) := Lib.hid (US1.out.then (B := w.heap.size) (((Below.refl _ _).alloc US1.out.size _).grown gr (by have := US1.out.size; simp; omega) (fun g hg => own_ge UO1.out g hg)) (Nat.le_refl _))
  have FB : Hid (U3.heap[a]? = some (.cells #[.string ⟨#[]⟩] 32 (0, 0))) := Lib.hid (by
    rw [gr.block a (by have := (Array.getElem?_eq_some_iff.1 UB1.out).1; simp; omega) (fun e => own_apart UO1.out UB1.out (by decide) e.symm), Below.heap_alloc _ _ _ (Array.getElem?_eq_some_iff.1 UB1.out).1]
    exact UB1.out)
  have FO := Lib.hid o6
  clear o6 gr
  go_wp2
  go_ret
  exact ⟨_, rfl, FO.out, ⟨FB.out, rfl⟩, FS.out⟩


theorem str_list (l : List UInt8) : (strK l).data.toList = l := by simp [strK]
theorem str_size (l : List UInt8) : (strK l).size = l.length := by simp [strK, ByteArray.size]

theorem beg_is {l : List UInt8} {n : Nat} (hl : l.length ≤ 4) (h : begV l = n) : BegIs (strK l) n := by
  intro W
  have := begins_any (strK l) l (str_list l).symm (by rw [str_size]; omega) W
  rw [h] at this
  exact this
theorem num_is {l : List UInt8} (h1 : 1 ≤ l.length) (hl : l.length ≤ 4) : NumIs (strK l) (numV l) := fun W => number_any (strK l) l (str_list l).symm (by rw [str_size]; exact h1) (by rw [str_size]; exact hl) W

/-- The document's Byte. -/
theorem ref_byte (a : Nat) (k : List UInt8) (b : UInt8) (w : World) (h : IsRef w a k) :
    Calls Tryd.prog 13 #[.pointer (some ⟨a, 0, none⟩), .int .u8 b.toNat] w (RefPost w a (comes k b)) := by
  have h3 := full_length h.ok
  have hl : (k ++ [b]).length ≤ 4 := by simp; omega
  have h1 : 1 ≤ (k ++ [b]).length := by simp
  by_cases hk : k = []
  · have e : comes k b = anew b := by rw [hk, comes_nil]
    have e2 : k ++ [b] = [b] := by rw [hk]; rfl
    have hf : fullB (anew b).2 = false := anew_keeps b
    rw [e]
    rcases beg_one b with ⟨g1, g2⟩ | ⟨g1, g2⟩ | ⟨g1, g2⟩ <;> rw [g2] at hf ⊢ <;> rw [← e2] at g1
    · exact ref_A0 a k b w h hk (beg_is hl g1)
    · have := ref_A1 a k b w h hk (beg_is hl g1) (by rw [e2]; exact hf)
      rw [e2] at this
      exact this
    · have := ref_A2 a k b w h hk (beg_is hl g1) (numV (k ++ [b])) (num_is h1 hl)
      rw [e2] at this
      exact this
  · rcases beg_more h.ok hk b with ⟨g1, g2⟩ | ⟨g1, g2⟩ | ⟨g1, g2⟩
    · rw [g2]
      have hf : fullB (anew b).2 = false := anew_keeps b
      rcases beg_one b with ⟨q1, q2⟩ | ⟨q1, q2⟩ | ⟨q1, q2⟩ <;> rw [q2] at hf ⊢
      · exact ref_C0 a k b w h hk (beg_is hl g1) (beg_is (by simp) q1)
      · exact ref_C1 a k b w h hk (beg_is hl g1) (beg_is (by simp) q1) hf
      · exact ref_C2 a k b w h hk (beg_is hl g1) (beg_is (by simp) q1) _ (num_is (by simp) (by simp))
    · have hf := comes_keeps k b
      rw [g2] at hf ⊢
      exact ref_B1 a k b w h hk (beg_is hl g1) hf
    · rw [g2]
      exact ref_B2 a k b w h hk (beg_is hl g1) _ (num_is h1 hl)

end Go.Proofs.YtbnclfelkdbbcaaDoor
