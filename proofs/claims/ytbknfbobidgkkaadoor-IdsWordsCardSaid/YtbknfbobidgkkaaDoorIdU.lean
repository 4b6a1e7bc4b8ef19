/- Layer 4: IdsWords' walk. -/
import Derived.Test.YtbknfbobidgkkaaDoorIdE
import Derived.Test.YtbknfbobidgkkaaDoorIdT
namespace Go.Proofs.YtbknfbobidgkkaaDoor
open Go.RowKit Ids Lat

/-- Words and the document's Words of one name. -/
structure WordsBoth (a b c : Int) (t : ByteArray) (ok : Bool) : Prop where
  own : ∀ w : World, Vars w → Calls Tryd.prog 10 #[.agg #[.int .i64 a, .int .i64 b, .int .i64 c]] w fun e w' => e = .returned (.tuple #[.string t, .bool ok]) ∧ Below w.heap.size w w'
  ref : ∀ w : World, Calls Tryd.prog 12 #[.int .i64 a, .int .i64 b, .int .i64 c] w fun e w' => e = .returned (.tuple #[.string t, .bool ok]) ∧ Below w.heap.size w w'

theorem words_both (a b c : Int) : ∃ t ok, WordsBoth a b c t ok := by
  cases h : mayAll a b c
  · exact ⟨⟨#[]⟩, false, fun w _ => words_no a b c w h, fun w => (refWords_no a b c w h).mono fun e w' ⟨he, hw⟩ => ⟨he, hw ▸ Below.refl _ _⟩⟩
  · exact ⟨_, true, fun w hV => words_yes a b c w h hV, fun w => refWords_yes a b c w h⟩

/-- Parse and the document's Parse of one text. -/
structure ParseBoth (s : ByteArray) (x y z : Int) (ok : Bool) : Prop where
  own : ∀ w : World, Vars w → Calls Tryd.prog 9 #[.string s] w fun e w' => e = .returned (.tuple #[.agg #[.int .i64 x, .int .i64 y, .int .i64 z], .bool ok]) ∧ Below w.heap.size w w'
  ref : ∀ w : World, Calls Tryd.prog 13 #[.string s] w fun e w' => e = .returned (.tuple #[.int .i64 x, .int .i64 y, .int .i64 z, .bool ok]) ∧ w = w'

theorem parse_both (s : ByteArray) (hs : s.size ≤ 2000) : ∃ x y z ok, ParseBoth s x y z ok := by
  obtain ⟨l, rfl⟩ : ∃ l : List UInt8, s = ⟨l.toArray⟩ := ⟨s.data.toList, by simp⟩
  have hl : l.length ≤ 2000 := by simpa [ByteArray.size] using hs
  have hr := ref_parse l
  cases h : refL l with
  | none =>
    rw [h] at hr
    refine ⟨0, 0, 0, false, fun w hV => parse_no (by omega) hr hV, fun w => (refParse_any ⟨l.toArray⟩ w (by omega)).mono ?_⟩
    rintro e w' ⟨rfl, ⟨a, b, c, h1, _⟩ | ⟨_, he⟩⟩
    · have : refL l = some (a, b, c) := h1
      rw [h] at this; cases this
    · exact ⟨he, rfl⟩
  | some p =>
    obtain ⟨a, b, c⟩ := p
    rw [h] at hr
    refine ⟨a, b, c, true, fun w hV => parse_some (by omega) hr hV, fun w => (refParse_any ⟨l.toArray⟩ w (by omega)).mono ?_⟩
    rintro e w' ⟨rfl, ⟨a', b', c', h1, he⟩ | ⟨h1, _⟩⟩
    · have h1' : refL l = some (a', b', c') := h1
      rw [h] at h1'
      injection h1' with h1'; injection h1' with e1 h1'; injection h1' with e2 e3
      subst e1 e2 e3
      exact ⟨he, rfl⟩
    · have : refL l = none := h1
      rw [h] at this; cases this

set_option maxRecDepth 100000 in
set_option maxHeartbeats 4000000 in
theorem words_walk (a b c : Int) (s : ByteArray) (w : World) (_ : (Lit.int .i64 a).wf = true) (_ : (Lit.int .i64 b).wf = true) (_ : (Lit.int .i64 c).wf = true) (hs : s.size ≤ maxLen) (hV : Vars w) :
    Calls Tryd.prog 4 #[.agg #[.int .i64 a, .int .i64 b, .int .i64 c], .string s] w fun e w' => e = .returned (.bool true) ∧ Below w.heap.size w w' := by
  unfold maxLen at hs
  obtain ⟨wb, hwb⟩ : ∃ wb, wb = w.alloc (.cells #[.int .i64 a, .int .i64 b, .int .i64 c] 23) := ⟨_, rfl⟩
  have HB : Hid (Below w.heap.size w wb) := Lib.hid (by rw [hwb]; exact (Below.refl _ _).alloc (Nat.le_refl _) _)
  have VB : Hid (Vars wb) := Lib.hid (hV.below HB.out (Nat.le_refl _))
  obtain ⟨g, hg⟩ : ∃ g, g = w.heap.size := ⟨_, rfl⟩
  have KC : Hid (∀ w', Below wb.heap.size wb w' → w'.cell? ⟨g, 0, none⟩ = some (.int .i64 a) ∧ w'.cell? ⟨g, 1, none⟩ = some (.int .i64 b) ∧ w'.cell? ⟨g, 2, none⟩ = some (.int .i64 c)) := Lib.hid fun w' hb => by
    have hlt : g < wb.heap.size := by rw [hwb, hg]; simp
    refine ⟨(hb.cell (p := ⟨g, 0, none⟩) hlt).trans ?_, (hb.cell (p := ⟨g, 1, none⟩) hlt).trans ?_, (hb.cell (p := ⟨g, 2, none⟩) hlt).trans ?_⟩ <;> (rw [hwb, hg]; simp)
  by_cases hl : 2000 < s.size
  · have h1 : decide ((2000 : Int) < s.size) = true := by simp; omega
    have HW := Lib.hid hwb
    have HG := Lib.hid hg
    clear hwb hg KC hV
    go_enter Tryd.func4, Tryd.ntmps4
    go_wp2_with fail
    rw [← HW.out]
    refine (awake_any _ VB.out).mono ?_
    rintro e w1 ⟨rfl, hb⟩
    have B1 := Lib.hid (HB.out.trans (hb.mono HB.out.size))
    clear hb
    go_wp2
    go_ret
    exact ⟨rfl, B1.out⟩
  · have h1 : decide ((2000 : Int) < s.size) = false := by simp; omega
    obtain ⟨t, ok, hW⟩ := words_both a b c
    obtain ⟨x, y, z, ko, hP⟩ := parse_both s (by omega)
    have WB := Lib.hid hW
    have PB := Lib.hid hP
    have HW := Lib.hid hwb
    have HG := Lib.hid hg
    clear hwb hg hV hl hW hP
    go_enter Tryd.func4, Tryd.ntmps4
    go_wp2_with fail
    rw [← HW.out, ← HG.out]
    refine (awake_any _ VB.out).mono ?_
    rintro e w1 ⟨rfl, hb⟩
    have B1 := Lib.hid hb
    obtain ⟨c0, c1, c2⟩ := KC.out _ hb
    clear hb
    go_wp2_with fail
    refine (WB.out.own _ (VB.out.below B1.out (Nat.le_refl _))).mono ?_
    rintro e w2 ⟨rfl, hb⟩
    have B2 := Lib.hid (B1.out.trans (hb.mono B1.out.size))
    clear hb B1 c0 c1 c2
    obtain ⟨c0, c1, c2⟩ := KC.out _ B2.out
    go_wp2_with fail
    refine (WB.out.ref _).mono ?_
    rintro e w3 ⟨rfl, hb⟩
    have B3 := Lib.hid (B2.out.trans (hb.mono B2.out.size))
    clear hb B2 c0 c1 c2
    go_wp2_with fail
    refine (PB.out.own _ (VB.out.below B3.out (Nat.le_refl _))).mono ?_
    rintro e w4 ⟨rfl, hb⟩
    have B4 := Lib.hid (HB.out.trans ((B3.out.trans (hb.mono B3.out.size)).mono HB.out.size))
    clear hb B3
    go_wp2_with fail
    refine (PB.out.ref _).mono ?_
    rintro e w5 ⟨rfl, rfl⟩
    go_wp2
    go_ret
    exact ⟨rfl, B4.out.alloc B4.out.size _⟩

end Go.Proofs.YtbknfbobidgkkaaDoor
