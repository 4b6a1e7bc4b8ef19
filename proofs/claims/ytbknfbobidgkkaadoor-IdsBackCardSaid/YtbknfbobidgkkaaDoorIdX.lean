/- Layer 4: IdsBack's walk. -/
import Derived.Test.YtbknfbobidgkkaaDoorIdW
namespace Go.Proofs.YtbknfbobidgkkaaDoor
open Go.RowKit Ids Lat

theorem text_is (s : ByteArray) (hs : s.size ≤ 2000) : TextIs s := by
  obtain ⟨l, rfl⟩ : ∃ l : List UInt8, s = ⟨l.toArray⟩ := ⟨s.data.toList, by simp⟩
  have hl : l.length ≤ 2000 := by simpa [ByteArray.size] using hs
  cases h : parseV l with
  | none => exact Or.inl fun w hV => parse_no (by omega) h hV
  | some p =>
    obtain ⟨x, y, z⟩ := p
    obtain ⟨hm, hw⟩ := words_parse h
    exact Or.inr ⟨x, y, z, fun w hV => parse_some (by omega) h hV, fun w hV => words_w hm hw w hV⟩

theorem words_is (a b c : Int) (h : mayAll a b c = true) : WordsIs a b c ⟨(wordsL a b c).toArray⟩ true := fun w hV => words_yes a b c w h hV
theorem words_isnt (a b c : Int) (h : mayAll a b c = false) : WordsIs a b c ⟨#[]⟩ false := fun w _ => words_no a b c w h
theorem back_is (a b c : Int) (h : mayAll a b c = true) : ParseIs ⟨(wordsL a b c).toArray⟩ a b c true := fun w hV => parse_some (by have := words_len h; omega) (parse_words h) hV
theorem nothing_is : ParseIs ⟨#[]⟩ 0 0 0 false := fun w hV => parse_no (l := []) (by simp) parse_empty hV
theorem words_ne {a b c a' b' c' : Int} (h : mayAll a b c = true) (h' : mayAll a' b' c' = true) (hne : (a, b, c) ≠ (a', b', c')) : ((⟨(wordsL a b c).toArray⟩ : ByteArray).toList == (⟨(wordsL a' b' c').toArray⟩ : ByteArray).toList) = false := by
  rw [str_eq]
  simp only [beq_eq_false_iff_ne, ne_eq]
  exact fun e => hne (words_inj h h' e)

set_option maxRecDepth 100000 in
set_option maxHeartbeats 4000000 in
theorem back_long (a b c a' b' c' : Int) (s : ByteArray) (w : World) (hs : s.size ≤ 9223372036854775807) (hl : 2000 < s.size) (hV : Vars w) :
    Calls Tryd.prog 7 #[.agg #[.int .i64 a, .int .i64 b, .int .i64 c], .agg #[.int .i64 a', .int .i64 b', .int .i64 c'], .string s] w fun e w' => e = .returned (.bool true) ∧ Below w.heap.size w w' := by
  have h1 : decide ((2000 : Int) < s.size) = true := by simp; omega
  obtain ⟨wb, hwb⟩ : ∃ wb, wb = (w.alloc (.cells #[.int .i64 a, .int .i64 b, .int .i64 c] 23)).alloc (.cells #[.int .i64 a', .int .i64 b', .int .i64 c'] 23) := ⟨_, rfl⟩
  have HB : Hid (Below w.heap.size w wb) := Lib.hid (by rw [hwb]; exact ((Below.refl _ _).alloc (Nat.le_refl _) _).alloc (by simp) _)
  have VB : Hid (Vars wb) := Lib.hid (hV.below HB.out (Nat.le_refl _))
  have HW := Lib.hid hwb
  clear hwb hV hl
  go_enter Tryd.func7, Tryd.ntmps7
  go_wp2_with fail
  rw [← HW.out]
  refine (awake_any _ VB.out).mono ?_
  rintro e w1 ⟨rfl, hb⟩
  have B1 := Lib.hid (HB.out.trans (hb.mono HB.out.size))
  clear hb
  go_wp2
  go_ret
  exact ⟨rfl, B1.out⟩

theorem back_walk (a b c a' b' c' : Int) (s : ByteArray) (w : World) (_ : (Lit.int .i64 a).wf = true) (_ : (Lit.int .i64 b).wf = true) (_ : (Lit.int .i64 c).wf = true) (_ : (Lit.int .i64 a').wf = true) (_ : (Lit.int .i64 b').wf = true) (_ : (Lit.int .i64 c').wf = true) (hs : s.size ≤ maxLen) (hV : Vars w) :
    Calls Tryd.prog 7 #[.agg #[.int .i64 a, .int .i64 b, .int .i64 c], .agg #[.int .i64 a', .int .i64 b', .int .i64 c'], .string s] w fun e w' => e = .returned (.bool true) ∧ Below w.heap.size w w' := by
  unfold maxLen at hs
  by_cases hl : 2000 < s.size
  · exact back_long a b c a' b' c' s w (by omega) hl hV
  have hl' : s.size ≤ 2000 := by omega
  have PT := text_is s hl'
  cases hp : mayAll a b c
  · have P2 : ∃ t ok, WordsIs a' b' c' t ok := by
      cases hq : mayAll a' b' c'
      · exact ⟨_, _, words_isnt _ _ _ hq⟩
      · exact ⟨_, _, words_is _ _ _ hq⟩
    obtain ⟨t, ok, P2⟩ := P2
    exact back_A a b c a' b' c' t ok s w hl' hV (words_isnt _ _ _ hp) P2 nothing_is PT
  · cases hq : mayAll a' b' c'
    · exact back_B a b c a' b' c' _ _ s w hl' hV (words_is _ _ _ hp) (words_isnt _ _ _ hq) (back_is _ _ _ hp) PT
    · by_cases e0 : a = a'
      · subst e0
        by_cases e1 : b = b'
        · subst e1
          by_cases e2 : c = c'
          · subst e2
            exact back_C a b c _ s w hl' hV (words_is _ _ _ hp) (words_is _ _ _ hp) (back_is _ _ _ hp) PT
          · exact back_D3 a b c c' _ _ s w hl' hV (words_is _ _ _ hp) (words_is _ _ _ hq) (back_is _ _ _ hp) PT (words_ne hp hq (by simp [e2])) (by simpa using e2)
        · exact back_D2 a b c b' c' _ _ s w hl' hV (words_is _ _ _ hp) (words_is _ _ _ hq) (back_is _ _ _ hp) PT (words_ne hp hq (by simp [e1])) (by simpa using e1)
      · exact back_D1 a b c a' b' c' _ _ s w hl' hV (words_is _ _ _ hp) (words_is _ _ _ hq) (back_is _ _ _ hp) PT (words_ne hp hq (by simp [e0])) (by simpa using e0)

end Go.Proofs.YtbknfbobidgkkaaDoor
