/- Layer 2: Room. -/
import Derived.Test.YtjfonbkeamhnmaaAudC
import Derived.Outline
namespace Go.Proofs.Ytjfonbkeamhnmaa
open Go.RowKit Lat

/-- How many entries an issuer has. -/
def cnt (b : Int) (l : List Ent) : Nat := (l.filter fun x => x.b == b).length
theorem cnt_le (b : Int) (l : List Ent) : cnt b l ≤ l.length := List.length_filter_le _ _
theorem cnt_snoc (b : Int) (l : List Ent) (x : Ent) : cnt b (l ++ [x]) = cnt b l + if x.b == b then 1 else 0 := by
  unfold cnt
  rw [List.filter_append]
  cases h : x.b == b <;> simp [h]
theorem take_snoc' (l : List Ent) (k : Nat) (hk : k < l.length) : l.take (k + 1) = l.take k ++ [l[k]] := by rw [List.take_succ_eq_append_getElem hk]

def roomV (n : Nat) (l : List Ent) (b : Int) : Int := if isLabel n b then 16 - (cnt b l : Int) else 0

theorem room_no (gb lb n : Nat) (T : Nat → Nat → Bool) (v : Value) (l : List Ent) (b : Int) (w : World) (h : IsLog w gb lb n T v l) (hb : isLabel n b = false) :
    Calls Try.prog 18 #[.pointer (some ⟨gb, 0, none⟩), .int .i64 b] w fun e w' => e = .returned (.int .i64 (roomV n l b)) ∧ Below w.heap.size w w' := by
  have H := Lib.hid h; clear h
  have E := Lib.hid (show roomV n l b = 0 by simp [roomV, hb])
  go_enter Try.func18, Try.ntmps18
  go_wp2_with (go_at_call 27; refine (logLabel_any gb lb n T v l _ _ H.out).mono ?_; rintro e w' ⟨rfl, rfl⟩)
  go_ret
  exact ⟨ret_int E.out.symm, Below.refl _ _⟩

set_option maxHeartbeats 1000000 in
theorem room_any (gb lb n : Nat) (T : Nat → Nat → Bool) (v : Value) (l : List Ent) (b : Int) (w : World) (h : IsLog w gb lb n T v l) :
    Calls Try.prog 18 #[.pointer (some ⟨gb, 0, none⟩), .int .i64 b] w fun e w' => e = .returned (.int .i64 (roomV n l b)) ∧ Below w.heap.size w w' := by
  cases hb : isLabel n b
  · exact room_no gb lb n T v l b w h hb
  have c1 := h.cells.2
  obtain ⟨A, c, rfl, hm, hr⟩ := ents_shape h.own
  have H := Lib.hid h
  have E := Lib.hid (show roomV n l b = 16 - (cnt b l : Int) by simp [roomV, hb])
  have HR := Lib.hid hr
  clear h hr
  go_enter Try.func18, Try.ntmps18
  go_wp2_with (go_at_call 27; refine (logLabel_any gb lb n T _ l _ _ H.out).mono ?_; rintro e w' ⟨rfl, rfl⟩)
  go_loopw [5, 17] (fun r i wr => ∃ k : Nat, k ≤ l.length ∧ i = .int .i64 k ∧ r = .int .i64 (16 - (cnt b (l.take k) : Int)) ∧ Below w.heap.size w wr) (fun _ i _ => l.length - (intOf i).toNat)
  case atStart => exact ⟨0, Nat.zero_le _, rfl, by simp [cnt], Below.refl _ _⟩
  case round =>
    obtain ⟨k, hk, rfl, rfl, hB⟩ := hrel
    by_cases hlt : k < l.length
    · obtain ⟨g, rfl, hg, hra⟩ := HR.out k hlt
      have hcl : cnt b (l.take k) ≤ k := Nat.le_trans (cnt_le _ _) (List.length_take_le _ _)
      have hs := cnt_snoc b (l.take k) l[k]
      rw [← take_snoc' l k hlt] at hs
      generalize l[k] = x at hs hra
      obtain ⟨xb, xf, xt, xs⟩ := x
      have HS := Lib.hid hs
      have HRA := Lib.hid (show wr.rangeAt g (k * 4) (Ent.cells ⟨xb, xf, xt, xs⟩) from fun j u hj => (hB.cell (p := ⟨g, k * 4 + j, none⟩) hg).trans (hra j u hj))
      have k0 := HRA.out 0 _ rfl
      have k1 := HRA.out 1 _ rfl
      have k2 := HRA.out 2 _ rfl
      have k3 := HRA.out 3 _ rfl
      simp only [Nat.add_zero] at k0
      have HB := Lib.hid hB
      clear hra hB hs
      cases hxb : (xb == b)
      · have HS' := Lib.hid (show cnt b (l.take (k + 1)) = cnt b (l.take k) by rw [HS.out, hxb]; simp)
        go_wp2
        go_roundw
        case rel => exact ⟨k + 1, by omega, by go_num, by rw [HS'.out], HB.out.alloc HB.out.size _⟩
        case measure => simp [intOf]; omega
      · have HS' := Lib.hid (show cnt b (l.take (k + 1)) = cnt b (l.take k) + 1 by rw [HS.out, hxb]; simp)
        go_wp2
        go_roundw
        case rel => exact ⟨k + 1, by omega, by go_num, by rw [HS'.out]; go_num, HB.out.alloc HB.out.size _⟩
        case measure => simp [intOf]; omega
    · have hkn : k = l.length := by omega
      subst hkn
      have HB := Lib.hid hB; clear hB
      go_wp2
      go_ret
      exact ⟨ret_int (by rw [E.out, List.take_length]), HB.out⟩
end Go.Proofs.Ytjfonbkeamhnmaa
