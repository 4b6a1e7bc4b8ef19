/- Layer 2: Put where it answers an error. -/
import Derived.Test.YtjfonbkeamhnmaaAudE
namespace Go.Proofs.Ytjfonbkeamhnmaa
open Go.RowKit Lat

/-- What Put answers. -/
def putErr (n : Nat) (T : Nat → Nat → Bool) (l : List Ent) (x : Ent) : Int :=
  if (isLabel n x.b && isLabel n x.f && isLabel n x.t) = false then 1 else if mayB n T x = false then 7 else if 4096 < x.s.size then 3 else if roomV n l x.b = 0 then 6 else 0
/-- What a log has behind Put. -/
def putL (n : Nat) (T : Nat → Nat → Bool) (l : List Ent) (x : Ent) : List Ent := if putErr n T l x = 0 then l ++ [x] else l

/-- Nothing that was there has turned but the log's struct and its own entries; the entries' block is the same or new. -/
structure Moved (w w' : World) (gb : Nat) (v v' : Value) : Prop where
  os : w'.os = w.os
  tape : w'.tape = w.tape
  output : w'.output = w.output
  size : w.heap.size ≤ w'.heap.size
  block : ∀ k, k < w.heap.size → k ≠ gb → v.ownBlock ≠ some k → w'.heap[k]? = w.heap[k]?
  own : v'.ownBlock = v.ownBlock ∨ ∃ g, v'.ownBlock = some g ∧ w.heap.size ≤ g

theorem Moved.of_below {w w' : World} (h : Below w.heap.size w w') (gb : Nat) (v : Value) : Moved w w' gb v v := ⟨h.os, h.tape, h.output, h.size, fun k hk _ _ => h.block k hk, Or.inl rfl⟩

def PutPost (w : World) (gb lb n : Nat) (T : Nat → Nat → Bool) (v : Value) (l : List Ent) (x : Ent) (e : Ending) (w' : World) : Prop :=
  ∃ v', e = .returned (.int .i64 (putErr n T l x)) ∧ IsLog w' gb lb n T v' (putL n T l x) ∧ Moved w w' gb v v'

theorem PutPost.err {w w' : World} {gb lb n : Nat} {T : Nat → Nat → Bool} {v : Value} {l : List Ent} {x : Ent} {c : Int} (h : IsLog w gb lb n T v l) (hb : Below w.heap.size w w') (hc : putErr n T l x = c) (h0 : c ≠ 0) : PutPost w gb lb n T v l x (.returned (.int .i64 c)) w' := by
  refine ⟨v, by rw [hc], ?_, Moved.of_below hb gb v⟩
  rw [putL, if_neg (by rw [hc]; exact h0)]
  exact h.below hb (Nat.le_refl _)

theorem put_arg (gb lb n : Nat) (T : Nat → Nat → Bool) (v : Value) (l : List Ent) (x : Ent) (w : World) (h : IsLog w gb lb n T v l) (hx : (isLabel n x.b && isLabel n x.f && isLabel n x.t) = false) :
    Calls Try.prog 9 #[.pointer (some ⟨gb, 0, none⟩), x.val] w (PutPost w gb lb n T v l x) := by
  have HH := Lib.hid h
  have H := Lib.hid (fun o => h.alloc o)
  have E := Lib.hid (show putErr n T l x = 1 by simp [putErr, hx])
  clear h
  obtain ⟨xb, xf, xt, xs⟩ := x
  unfold Ent.val
  simp only at hx
  cases h1 : isLabel n xb
  · clear hx
    go_enter Try.func9, Try.ntmps9
    go_wp2_with (first | (go_at_call 26; refine (made_any gb lb n T v l _ (H.out _)).mono ?_; rintro e w' ⟨rfl, rfl⟩) | (go_at_call 27; refine (logLabel_any gb lb n T v l _ _ (H.out _)).mono ?_; rintro e w' ⟨rfl, rfl⟩))
    go_ret
    exact PutPost.err HH.out ((Below.refl _ w).alloc (Nat.le_refl _) _) E.out (by decide)
  · cases h2 : isLabel n xf
    · clear hx
      go_enter Try.func9, Try.ntmps9
      go_wp2_with (first | (go_at_call 26; refine (made_any gb lb n T v l _ (H.out _)).mono ?_; rintro e w' ⟨rfl, rfl⟩) | (go_at_call 27; refine (logLabel_any gb lb n T v l _ _ (H.out _)).mono ?_; rintro e w' ⟨rfl, rfl⟩))
      go_ret
      exact PutPost.err HH.out ((Below.refl _ w).alloc (Nat.le_refl _) _) E.out (by decide)
    · have h3 : isLabel n xt = false := by rw [h1, h2] at hx; simpa using hx
      clear hx
      go_enter Try.func9, Try.ntmps9
      go_wp2_with (first | (go_at_call 26; refine (made_any gb lb n T v l _ (H.out _)).mono ?_; rintro e w' ⟨rfl, rfl⟩) | (go_at_call 27; refine (logLabel_any gb lb n T v l _ _ (H.out _)).mono ?_; rintro e w' ⟨rfl, rfl⟩))
      go_ret
      exact PutPost.err HH.out ((Below.refl _ w).alloc (Nat.le_refl _) _) E.out (by decide)

theorem put_flow (gb lb n : Nat) (T : Nat → Nat → Bool) (v : Value) (l : List Ent) (x : Ent) (w : World) (h : IsLog w gb lb n T v l) (hx : (isLabel n x.b && isLabel n x.f && isLabel n x.t) = true) (hm : mayB n T x = false) :
    Calls Try.prog 9 #[.pointer (some ⟨gb, 0, none⟩), x.val] w (PutPost w gb lb n T v l x) := by
  have HH := Lib.hid h
  have H := Lib.hid (fun o => h.alloc o)
  have E := Lib.hid (show putErr n T l x = 7 by simp [putErr, hx, hm])
  obtain ⟨xb, xf, xt, xs⟩ := x
  have HM := Lib.hid (fun o => hm ▸ mayBe_any gb lb n T v l ⟨xb, xf, xt, xs⟩ _ (h.alloc o))
  clear h hm
  unfold Ent.val
  simp only [Bool.and_eq_true] at hx
  obtain ⟨⟨h1, h2⟩, h3⟩ := hx
  go_enter Try.func9, Try.ntmps9
  go_wp2_with (first | (go_at_call 26; refine (made_any gb lb n T v l _ (H.out _)).mono ?_; rintro e w' ⟨rfl, rfl⟩) | (go_at_call 27; refine (logLabel_any gb lb n T v l _ _ (H.out _)).mono ?_; rintro e w' ⟨rfl, rfl⟩))
  refine (HM.out _).mono ?_
  rintro e w2 ⟨rfl, hB⟩
  have HB := Lib.hid (((Below.refl _ w).alloc (Nat.le_refl _) _).trans (hB.mono (by simp)))
  clear hB
  go_wp2
  go_ret
  exact PutPost.err HH.out HB.out E.out (by decide)

theorem bcell {W w1 : World} (hb : Below W.heap.size W w1) : ∀ b o, b < W.heap.size → w1.cell? ⟨b, o, none⟩ = W.cell? ⟨b, o, none⟩ := fun b o h => hb.cell (p := ⟨b, o, none⟩) h

theorem put_long (gb lb n : Nat) (T : Nat → Nat → Bool) (v : Value) (l : List Ent) (x : Ent) (w : World) (h : IsLog w gb lb n T v l) (hx : (isLabel n x.b && isLabel n x.f && isLabel n x.t) = true) (hm : mayB n T x = true) (hs : 4096 < x.s.size) (hs' : x.s.size ≤ 9223372036854775807) :
    Calls Try.prog 9 #[.pointer (some ⟨gb, 0, none⟩), x.val] w (PutPost w gb lb n T v l x) := by
  have HH := Lib.hid h
  have H := Lib.hid (fun o => h.alloc o)
  have E := Lib.hid (show putErr n T l x = 3 by simp [putErr, hx, hm, hs])
  obtain ⟨xb, xf, xt, xs⟩ := x
  have HM := Lib.hid (fun o => hm ▸ mayBe_any gb lb n T v l ⟨xb, xf, xt, xs⟩ _ (h.alloc o))
  clear h hm
  unfold Ent.val
  simp only [Bool.and_eq_true] at hx hs hs'
  obtain ⟨⟨h1, h2⟩, h3⟩ := hx
  go_enter Try.func9, Try.ntmps9
  go_wp2_with (first | (go_at_call 26; refine (made_any gb lb n T v l _ (H.out _)).mono ?_; rintro e w' ⟨rfl, rfl⟩) | (go_at_call 27; refine (logLabel_any gb lb n T v l _ _ (H.out _)).mono ?_; rintro e w' ⟨rfl, rfl⟩))
  refine (HM.out _).mono ?_
  rintro e w2 ⟨rfl, hB⟩
  have hc3 : w2.cell? ⟨w.heap.size, 3, none⟩ = some (.string xs) := (bcell hB _ 3 (by simp)).trans (by simp)
  have HB := Lib.hid (((Below.refl _ w).alloc (Nat.le_refl _) _).trans (hB.mono (by simp)))
  clear hB
  go_wp2
  go_ret
  exact PutPost.err HH.out HB.out E.out (by decide)

theorem put_full (gb lb n : Nat) (T : Nat → Nat → Bool) (v : Value) (l : List Ent) (x : Ent) (w : World) (h : IsLog w gb lb n T v l) (hx : (isLabel n x.b && isLabel n x.f && isLabel n x.t) = true) (hm : mayB n T x = true) (hs : ¬ 4096 < x.s.size) (hr : roomV n l x.b = 0) :
    Calls Try.prog 9 #[.pointer (some ⟨gb, 0, none⟩), x.val] w (PutPost w gb lb n T v l x) := by
  have HH := Lib.hid h
  have H := Lib.hid (fun o => h.alloc o)
  have E := Lib.hid (show putErr n T l x = 6 by rw [putErr, if_neg (by rw [hx]; simp), if_neg (by rw [hm]; simp), if_neg hs, if_pos hr])
  obtain ⟨xb, xf, xt, xs⟩ := x
  have HM := Lib.hid (fun o => hm ▸ mayBe_any gb lb n T v l ⟨xb, xf, xt, xs⟩ _ (h.alloc o))
  clear hm
  unfold Ent.val
  simp only [Bool.and_eq_true] at hx hs hr
  obtain ⟨⟨h1, h2⟩, h3⟩ := hx
  have HRM := Lib.hid (fun (w2 : World) (hB : Below w.heap.size w w2) => hr ▸ room_any gb lb n T v l xb w2 (h.below hB (Nat.le_refl _)))
  clear h hr
  go_enter Try.func9, Try.ntmps9
  go_wp2_with (first | (go_at_call 26; refine (made_any gb lb n T v l _ (H.out _)).mono ?_; rintro e w' ⟨rfl, rfl⟩) | (go_at_call 27; refine (logLabel_any gb lb n T v l _ _ (H.out _)).mono ?_; rintro e w' ⟨rfl, rfl⟩))
  refine (HM.out _).mono ?_
  rintro e w2 ⟨rfl, hB⟩
  have hc3 : w2.cell? ⟨w.heap.size, 3, none⟩ = some (.string xs) := (bcell hB _ 3 (by simp)).trans (by simp)
  have hc0 : w2.cell? ⟨w.heap.size, 0, none⟩ = some (.int .i64 xb) := (bcell hB _ 0 (by simp)).trans (by simp)
  have HB := Lib.hid (((Below.refl _ w).alloc (Nat.le_refl _) _).trans (hB.mono (by simp)))
  clear hB
  go_wp2_with fail
  refine (HRM.out w2 HB.out).mono ?_
  rintro e w3 ⟨rfl, hB3⟩
  have HB3 := Lib.hid (HB.out.trans (hB3.mono HB.out.size))
  clear hB3
  go_wp2
  go_ret
  exact PutPost.err HH.out HB3.out E.out (by decide)
end Go.Proofs.Ytjfonbkeamhnmaa
