/- Layer 2: AuditNobody's walk. -/
import Derived.Test.YtjfonbkeamhnmaaAudH
namespace Go.Proofs.Ytjfonbkeamhnmaa
open Go.RowKit Lat

/-- An entry's box, and a log that nobody made, in a world in which nothing old has turned. -/
structure Nob (w0 w : World) (xb xf xt : Int) (xs : ByteArray) (bx bb : Nat) : Prop where
  old : Below w0.heap.size w0 w
  b0 : w.cell? ⟨bx, 0, none⟩ = some (.int .i64 xb)
  b1 : w.cell? ⟨bx, 1, none⟩ = some (.int .i64 xf)
  b2 : w.cell? ⟨bx, 2, none⟩ = some (.int .i64 xt)
  b3 : w.cell? ⟨bx, 3, none⟩ = some (.string xs)
  n0 : w.cell? ⟨bb, 0, none⟩ = some (.pointer none)
  n1 : w.cell? ⟨bb, 1, none⟩ = some (.slice none 0 0)
  ltx : bx < w.heap.size
  ltb : bb < w.heap.size

theorem Nob.below {w0 w w' : World} {xb xf xt : Int} {xs : ByteArray} {bx bb : Nat} (h : Nob w0 w xb xf xt xs bx bb) (hb : Below w.heap.size w w') : Nob w0 w' xb xf xt xs bx bb := by
  have hl := hb.size
  have h1 := h.ltx
  have h2 := h.ltb
  exact ⟨h.old.trans (hb.mono h.old.size), (bcell hb _ _ h1).trans h.b0, (bcell hb _ _ h1).trans h.b1, (bcell hb _ _ h1).trans h.b2, (bcell hb _ _ h1).trans h.b3, (bcell hb _ _ h2).trans h.n0, (bcell hb _ _ h2).trans h.n1, by omega, by omega⟩
theorem Nob.alloc {w0 w : World} {xb xf xt : Int} {xs : ByteArray} {bx bb : Nat} (h : Nob w0 w xb xf xt xs bx bb) (o : Obj) : Nob w0 (w.alloc o) xb xf xt xs bx bb := h.below ((Below.refl _ w).alloc (Nat.le_refl _) o)
theorem Nob.no {w0 w : World} {xb xf xt : Int} {xs : ByteArray} {bx bb : Nat} (h : Nob w0 w xb xf xt xs bx bb) : NoLog w (.pointer (some ⟨bb, 0, none⟩)) := Or.inr ⟨bb, rfl, h.n0, h.n1⟩
theorem no_nil (w : World) : NoLog w (.pointer none) := Or.inl rfl

set_option maxRecDepth 100000 in
set_option maxHeartbeats 1600000 in
theorem nobody_any (x : Ent) (i : Int) (w : World) (hs : x.s.size ≤ 9223372036854775807) : Calls Try.prog 5 #[x.val, .int .i64 i] w fun e w' => e = .returned (.bool true) ∧ Below w.heap.size w w' := by
  obtain ⟨xb, xf, xt, xs⟩ := x
  simp only at hs
  unfold Ent.val
  go_enter Try.func5, Try.ntmps5
  go_wp2_with fail
  refine (awake_any _).mono ?_
  rintro e w1 ⟨rfl, hB⟩
  have HB := Lib.hid (((Below.refl _ w).alloc (Nat.le_refl _) _).trans (hB.mono (by simp)))
  have k3 : w1.cell? ⟨w.heap.size, 3, none⟩ = some (.string xs) := (bcell hB _ 3 (by simp)).trans (by simp)
  have HN := Lib.hid (show Nob w (w1.alloc (.cells #[.pointer none, .slice none 0 0] 54)) xb xf xt xs w.heap.size w1.heap.size from by
    have hsz := hB.size
    simp at hsz
    have hA : Below w1.heap.size w1 (w1.alloc (.cells #[.pointer none, .slice none 0 0] 54)) := (Below.refl _ w1).alloc (Nat.le_refl _) _
    refine ⟨HB.out.trans (hA.mono (by omega)), ?_, ?_, ?_, ?_, by simp, by simp, by simp; omega, by simp⟩
    all_goals
      refine (bcell hA _ _ (by omega)).trans ((bcell hB _ _ (by simp)).trans (by simp)))
  clear hB
  by_cases h5 : 5000 < xs.size
  · go_wp2
    go_ret
    exact ⟨rfl, HB.out⟩
  go_wp2_with fail
  refine (at_0 _ i _ (no_nil _)).mono ?_
  rintro e w2 ⟨rfl, hb⟩
  have H2 := Lib.hid ((HN.out.below hb).alloc (.cells #[.int .i64 0, .int .i64 0, .int .i64 0, .string ⟨#[]⟩] 30))
  clear hb HN HB
  unfold noEnt
  go_wp2_with fail
  refine (at_0 _ i _ H2.out.no).mono ?_
  rintro e w3 ⟨rfl, hb⟩
  have H3 := Lib.hid ((H2.out.below hb).alloc (.cells #[.int .i64 0, .int .i64 0, .int .i64 0, .string ⟨#[]⟩] 30))
  clear hb H2
  have q0 := H3.out.b0
  have q1 := H3.out.b1
  have q2 := H3.out.b2
  have q3 := H3.out.b3
  unfold noEnt
  go_wp2_with (go_at_call 7; refine (logNew_nil _).mono ?_; rintro e w' ⟨rfl, rfl⟩)
  refine (put_0 _ ⟨xb, xf, xt, xs⟩ _ (no_nil _)).mono ?_
  rintro e w4 ⟨rfl, hb⟩
  have H4 := Lib.hid (H3.out.below hb)
  clear hb H3 q0 q1 q2 q3
  have q0 := H4.out.b0
  have q1 := H4.out.b1
  have q2 := H4.out.b2
  have q3 := H4.out.b3
  go_wp2_with (first | (go_at_call 18; refine (room_0 _ _ _ (no_nil _)).mono ?_; rintro e w' ⟨rfl, rfl⟩) | (go_at_call 12; refine (logLen_0 _ _ (no_nil _)).mono ?_; rintro e w' ⟨rfl, rfl⟩) | (go_at_call 13; refine (seen_0 _ _ _ (no_nil _)).mono ?_; rintro e w' ⟨rfl, rfl⟩))
  refine (put_0 _ ⟨xb, xf, xt, xs⟩ _ H4.out.no).mono ?_
  rintro e w5 ⟨rfl, hb⟩
  have H5 := Lib.hid (H4.out.below hb)
  clear hb H4 q0 q1 q2 q3
  go_wp2_with (first | (go_at_call 18; refine (room_0 _ _ _ H5.out.no).mono ?_; rintro e w' ⟨rfl, rfl⟩) | (go_at_call 12; refine (logLen_0 _ _ H5.out.no).mono ?_; rintro e w' ⟨rfl, rfl⟩) | (go_at_call 13; refine (seen_0 _ _ _ H5.out.no).mono ?_; rintro e w' ⟨rfl, rfl⟩))
  go_ret
  exact ⟨rfl, H5.out.old⟩
end Go.Proofs.Ytjfonbkeamhnmaa
