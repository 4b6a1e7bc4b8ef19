/- Layer 15: the law's same and page. -/
import Derived.Test.YtifolcfnknlmdaaReT
import Derived.Test.YtifolcfnknlmdaaReG
import Derived.Test.YtifolcfnknlmdaaReO
set_option linter.unusedVariables false
namespace Go.Proofs.Ytifolcfnknlmdaa.Re
open Go.RowKit Go.Proofs.Ytifolcfnknlmdaa.Rw

set_option maxRecDepth 100000 in
theorem law_same {F G : Nat → Prop} {u v : Value} {l m : List LnC} {w : World} (h1 : LinesAt F w u l) (h2 : LinesAt G w v m) (hl : l.length ≤ 100000) (hm : m.length ≤ 1000000) (hc : ∀ k, (l.getD k noLn).cells.length ≤ 100000) : Calls Try.prog 14 #[u, v] w fun e w' => e = .returned (.bool (decide (l = m))) ∧ Below w.heap.size w w' := by
  have K1 := Lib.hid (given_any h1 (by omega))
  have H2 := Lib.hid h2
  have Hc := Lib.hid (And.intro hl (And.intro hm hc))
  clear h1 h2 hl hm hc
  go_enter Try.func14, Try.ntmps14
  go_wp2_with fail
  refine (show Calls _ _ _ _ _ from K1.out).mono ?_
  rintro e w1 ⟨a, rfl, ha, hb1⟩
  have K2 := Lib.hid (given_any (H2.out.below hb1) Hc.out.2.1)
  have HA := Lib.hid ha
  have HB1 := Lib.hid hb1
  clear ha hb1 K1
  go_wp2_with fail
  refine (show Calls _ _ _ _ _ from K2.out).mono ?_
  rintro e w2 ⟨b, rfl, hb, hb2⟩
  have K3 := Lib.hid (same_lines (HA.out.below hb2) hb Hc.out.1 Hc.out.2.2)
  have HB2 := Lib.hid (HB1.out.trans (hb2.mono HB1.out.size))
  clear hb hb2 K2
  go_wp2_with fail
  refine (show Calls _ _ _ _ _ from K3.out).mono ?_
  rintro e w3 ⟨rfl, hb3⟩
  have HB3 := Lib.hid (HB2.out.trans (hb3.mono HB2.out.size))
  clear hb3 K3
  go_wp2
  go_ret
  exact ⟨rfl, HB3.out⟩
/-- The chapter's lines. -/
def pageV : List LnC := [⟨ofV [97, 98, 99, 100], true, false⟩, ⟨ofV [101, 102], false, false⟩, ⟨ofV [103, 104], false, false⟩]
theorem ofV_small (rs : List Nat) (h : rs.length ≤ 1000) : (ofV rs).length ≤ 2000 := by have := ofV_len rs; omega
/-- A slice of lines, written out. -/
theorem lits_lines {F : Nat → Prop} {w : World} (rs : List Raw) (ls : List LnC) (hl : rs.length = ls.length) (h5 : ls.length ≤ 1000) (hr : ∀ k, k < ls.length → (rs.getD k noRaw).j = (ls.getD k noLn).joined ∧ (rs.getD k noRaw).s = (ls.getD k noLn).short ∧ RowF F w (rs.getD k noRaw).u (ls.getD k noLn).cells) : LinesAt (fun b => F b ∨ w.heap.size ≤ b) (w.alloc (.cells (rawsC rs).toArray 30)) (.slice (some ⟨w.heap.size, 0, none⟩) ls.length ls.length) ls := by
  have hb : Below w.heap.size w (w.alloc (.cells (rawsC rs).toArray 30)) := (Below.refl _ _).alloc (Nat.le_refl _) _
  have ho : OwnL 30 (w.alloc (.cells (rawsC rs).toArray 30)) w.heap.size (.slice (some ⟨w.heap.size, 0, none⟩) ls.length ls.length) rs := by
    refine ⟨by rw [raws_len], Or.inr ⟨w.heap.size, ls.length, (rawsC rs).toArray, by rw [hl], Nat.le_refl _, heap_alloc_new w _, by omega, by unfold maxLen; omega, by rw [List.size_toArray, raws_len, hl], ?_⟩⟩
    rw [List.take_of_length_le (by rw [raws_len, hl]; exact Nat.le_refl _)]
  exact ownL_lines (F := F) ho hl fun k hk => ⟨(hr k hk).1, (hr k hk).2.1, (hr k hk).2.2.keep (fun b _ hlt => hb.block b hlt) hb.size⟩
def stepsB (s : ByteArray) : Nat → List Nat → Bool
  | pos, [] => decide (s.size ≤ pos)
  | pos, r :: rs => decide (pos < s.size) && (decide ((Utf8.decode s pos).1 = r) && (decide (1 ≤ (Utf8.decode s pos).2) && stepsB s (pos + (Utf8.decode s pos).2) rs))
theorem steps_of (s : ByteArray) : ∀ (rs : List Nat) (pos : Nat), stepsB s pos rs = true → Steps s pos rs
  | [], pos, h => (of_decide_eq_true h : s.size ≤ pos)
  | r :: rs, pos, h => by
    simp only [stepsB, Bool.and_eq_true, decide_eq_true_eq] at h
    exact ⟨h.1, h.2.1, h.2.2.1, steps_of s rs _ h.2.2.2⟩
set_option maxRecDepth 100000 in
theorem page_any (w : World) : Calls Try.prog 12 #[] w fun e w' => ∃ u, e = .returned u ∧ LinesAt (fun b => w.heap.size ≤ b) w' u pageV ∧ Below w.heap.size w w' := by
  have s1 : Steps ⟨#[97, 98, 99, 100]⟩ 0 [97, 98, 99, 100] := steps_of _ _ _ (by decide +kernel)
  have s2 : Steps ⟨#[101, 102]⟩ 0 [101, 102] := steps_of _ _ _ (by decide +kernel)
  have s3 : Steps ⟨#[103, 104]⟩ 0 [103, 104] := steps_of _ _ _ (by decide +kernel)
  have K1 := Lib.hid (of_any _ true false _ s1 (by decide) w)
  have K2 := Lib.hid fun V => of_any _ false false _ s2 (by decide) V
  have K3 := Lib.hid fun V => of_any _ false false _ s3 (by decide) V
  clear s1 s2 s3
  go_enter Try.func12, Try.ntmps12
  go_wp2_with fail
  refine (show Calls _ _ _ _ _ from K1.out).mono ?_
  rintro e w1 ⟨u1, rfl, h1, b1⟩
  have H1 := Lib.hid (And.intro h1 b1)
  clear h1 b1 K1
  go_wp2_with fail
  refine (show Calls _ _ _ _ _ from K2.out w1).mono ?_
  rintro e w2 ⟨u2, rfl, h2, b2⟩
  have H2 := Lib.hid (And.intro h2 b2)
  clear h2 b2 K2
  go_wp2_with fail
  refine (show Calls _ _ _ _ _ from K3.out w2).mono ?_
  rintro e w3 ⟨u3, rfl, h3, b3⟩
  have r3 : RowF (fun b => w.heap.size ≤ b) w3 u3 (ofV [103, 104]) := ⟨own_lies h3, fun b e _ => Nat.le_trans (Nat.le_trans H1.out.2.size H2.out.2.size) (own_ge h3 b e)⟩
  have r2 : RowF (fun b => w.heap.size ≤ b) w3 u2 (ofV [101, 102]) := ⟨(own_lies H2.out.1).below b3, fun b e _ => Nat.le_trans H1.out.2.size (own_ge H2.out.1 b e)⟩
  have r1 : RowF (fun b => w.heap.size ≤ b) w3 u1 (ofV [97, 98, 99, 100]) := ⟨((own_lies H1.out.1).below H2.out.2).below b3, fun b e _ => own_ge H1.out.1 b e⟩
  have hb : Below w.heap.size w w3 := (H1.out.2.trans (H2.out.2.mono H1.out.2.size)).trans (b3.mono (Nat.le_trans H1.out.2.size H2.out.2.size))
  have HF := Lib.hid ((lits_lines (F := fun b => w.heap.size ≤ b) [⟨u1, true, false⟩, ⟨u2, false, false⟩, ⟨u3, false, false⟩] pageV rfl (by decide) (fun k hk => by
    have hk : k < 3 := hk
    match k, hk with
    | 0, _ => exact ⟨rfl, rfl, r1⟩
    | 1, _ => exact ⟨rfl, rfl, r2⟩
    | 2, _ => exact ⟨rfl, rfl, r3⟩)).more fun b hb' => hb'.elim id fun h => Nat.le_trans hb.size h)
  have HB := Lib.hid (hb.alloc hb.size (.cells (rawsC [⟨u1, true, false⟩, ⟨u2, false, false⟩, ⟨u3, false, false⟩]).toArray 30))
  obtain ⟨A3, n3, c3, rfl⟩ : ∃ A n c, u3 = .slice A n c := by obtain ⟨A, c, e, -⟩ := own_lies h3; exact ⟨_, _, _, e⟩
  obtain ⟨A2, n2, c2, rfl⟩ : ∃ A n c, u2 = .slice A n c := by obtain ⟨A, c, e, -⟩ := own_lies H2.out.1; exact ⟨_, _, _, e⟩
  obtain ⟨A1, n1, c1, rfl⟩ : ∃ A n c, u1 = .slice A n c := by obtain ⟨A, c, e, -⟩ := own_lies H1.out.1; exact ⟨_, _, _, e⟩
  clear h3 b3 r1 r2 r3 hb H1 H2 K3
  go_wp2
  go_ret
  exact ⟨_, rfl, HF.out, HB.out⟩
end Go.Proofs.Ytifolcfnknlmdaa.Re
