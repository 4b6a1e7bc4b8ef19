/- Layer 4: the document's may, digits, Words. -/
import Derived.Test.YtbknfbobidgkkaaDoorIdB
import Derived.Laws.IdiomStrings
namespace Go.Proofs.YtbknfbobidgkkaaDoor
open Go.RowKit Ids

theorem may_any (a : Int) (w : World) : Calls Tryd.prog 23 #[.int .i64 a] w fun e w' => e = .returned (.bool (mayB a)) ∧ w = w' := by
  by_cases h0 : 0 ≤ a
  · have E := Lib.hid (show mayB a = decide (a ≤ 2147483647) by simp [mayB, h0])
    go_enter Tryd.func23, Tryd.ntmps23
    go_wp2
    go_ret
    exact ⟨ret_bool E.out.symm, rfl⟩
  · have E := Lib.hid (show mayB a = false by simp [mayB, h0])
    have hd : decide (0 ≤ a) = false := by simpa using h0
    go_enter Tryd.func23, Tryd.ntmps23
    go_wp2
    go_ret
    exact ⟨ret_bool E.out.symm, rfl⟩

theorem may_yes {a : Int} (h : mayB a = true) (w : World) : Calls Tryd.prog 23 #[.int .i64 a] w fun e w' => e = .returned (.bool true) ∧ w = w' := h ▸ may_any a w
theorem may_no {a : Int} (h : mayB a = false) (w : World) : Calls Tryd.prog 23 #[.int .i64 a] w fun e w' => e = .returned (.bool false) ∧ w = w' := h ▸ may_any a w

theorem digit_chars (n : Nat) (hn : n < 10) (c : UInt8) (hcc : c = UInt8.ofNat (48 + n)) (w : World) :
    (convert 71 9 (.slice (some ⟨w.heap.size, 0, none⟩) 1 1)).run Tryd.prog (w.alloc (.cells #[.int .u8 (48 + (n : Int))] 5)) = .ok (.string ⟨#[c]⟩) (w.alloc (.cells #[.int .u8 (48 + (n : Int))] 5)) := by
  have hd := digit_char n hn
  exact run_convert_bytes_back (P := Tryd.prog) _ 71 9 5 ⟨w.heap.size, 0, none⟩ 1 [c] Tryd.underlying71 Tryd.underlying5 Tryd.underlying9 (fun j hj => by
    have hj0 : j = 0 := by simpa using hj
    subst hj0
    have e : (c.toNat : Int) = 48 + (n : Int) := by rw [hcc]; omega
    simp only [List.getElem_cons_zero]
    rw [e]
    simp [Addr.add])

theorem dec_small {n : Nat} (hn : n < 10) : Lib.decDigits n = [UInt8.ofNat (48 + n)] := by rw [Lib.decDigits, dif_pos hn]
theorem dec_great {n : Nat} (hn : ¬ n < 10) : Lib.decDigits n = Lib.decDigits (n / 10) ++ Lib.decDigits (n % 10) := by
  conv => lhs; rw [Lib.decDigits, dif_neg hn]
  rw [dec_small (Nat.mod_lt _ (by omega))]

set_option maxRecDepth 100000 in
theorem digit_one (n : Nat) (hn : n < 10) (l : List UInt8) (hl : Lib.decDigits n = l) (w : World) : Calls Tryd.prog 24 #[.int .i64 n] w fun e w' => e = .returned (.string ⟨l.toArray⟩) ∧ Below w.heap.size w w' := by
  obtain ⟨c, hcc⟩ : ∃ c, c = UInt8.ofNat (48 + n) := ⟨_, rfl⟩
  have hl' : l = [c] := by rw [← hl, dec_small hn, hcc]
  subst hl'
  have h1 : (n : Int) < 10 := by omega
  have hc := digit_chars n hn c hcc w
  clear hcc hl
  go_enter Tryd.func24, Tryd.ntmps24
  go_wp2
  go_ret
  exact ⟨rfl, (Below.refl _ w).alloc (Nat.le_refl _) _⟩

theorem dec_len (n : Nat) (hn : n ≤ 2147483647) : (Lib.decDigits n).length ≤ 21 := by
  have := Lib.itoa_length_le n (by omega) (by omega)
  rw [itoa_of (Int.natCast_nonneg _)] at this
  simpa using this

/-- digits, in letters. -/
def Digs (n : Int) (l : List UInt8) : Prop := ∀ w : World, Calls Tryd.prog 24 #[.int .i64 n] w fun e w' => e = .returned (.string ⟨l.toArray⟩) ∧ Below w.heap.size w w'

set_option maxRecDepth 100000 in
theorem digit_step (n : Nat) (h : ¬ n < 10) (hn : n ≤ 2147483647) (l1 l2 : List UInt8) (z1 : l1.length ≤ 21) (z2 : l2.length ≤ 21) (H1 : Digs ((n : Int) / 10) l1) (H2 : Digs ((n : Int) % 10) l2) (w : World) :
    Calls Tryd.prog 24 #[.int .i64 n] w fun e w' => e = .returned (.string ⟨(l1 ++ l2).toArray⟩) ∧ Below w.heap.size w w' := by
  have K1 := Lib.hid H1
  have K2 := Lib.hid H2
  have h1 : decide ((n : Int) < 10) = false := by simp; omega
  have h2 : (0 : Int) ≤ n := by omega
  have h3 : (n : Int) ≤ 2147483647 := by omega
  have n1 : ¬ 9223372036854775807 < l1.length + l2.length := by omega
  have E := Lib.hid (show (⟨l1.toArray⟩ ++ ⟨l2.toArray⟩ : ByteArray) = ⟨(l1 ++ l2).toArray⟩ by apply ByteArray.ext; simp [ByteArray.data_append])
  clear h hn z1 z2 H1 H2
  go_enter Tryd.func24, Tryd.ntmps24
  go_wp2_with fail
  refine (K1.out _).mono ?_
  rintro e w1 ⟨rfl, hb⟩
  have B1 := Lib.hid hb
  clear hb
  go_wp2_with fail
  refine (K2.out _).mono ?_
  rintro e w2 ⟨rfl, hb⟩
  have B2 := Lib.hid (B1.out.trans (hb.mono B1.out.size))
  clear hb B1
  go_wp2
  go_ret
  exact ⟨congrArg (fun s => Ending.returned (.string s)) E.out, B2.out⟩

theorem digits_any (n : Nat) : n ≤ 2147483647 → Digs n (Lib.decDigits n) := by
  induction n using Nat.strongRecOn with
  | ind n ih =>
    intro hn w
    by_cases h : n < 10
    · exact digit_one n h _ rfl w
    · rw [dec_great h]
      have h1 := ih (n / 10) (by omega) (by omega)
      have h2 := ih (n % 10) (by omega) (by omega)
      exact digit_step n h hn _ _ (dec_len _ (by omega)) (dec_len _ (by omega)) (by simpa using h1) (by simpa using h2) w

theorem digs_itoa {a : Int} (h : mayB a = true) : Digs a (Lib.itoa a) := by
  obtain ⟨a0, a1⟩ := may_true h
  obtain ⟨n, rfl⟩ : ∃ n : Nat, a = n := ⟨a.toNat, by omega⟩
  rw [itoa_of a0]
  simpa using digits_any n (by omega)

set_option maxRecDepth 100000 in
theorem refWords_no (a b c : Int) (w : World) (h : mayAll a b c = false) :
    Calls Tryd.prog 12 #[.int .i64 a, .int .i64 b, .int .i64 c] w fun e w' => e = .returned (.tuple #[.string ⟨#[]⟩, .bool false]) ∧ w = w' := by
  cases ha : mayB a
  · have H1 := Lib.hid (may_no ha)
    clear h ha
    go_enter Tryd.func12, Tryd.ntmps12
    go_wp2_with fail
    refine (H1.out _).mono ?_
    rintro e w' ⟨rfl, rfl⟩
    go_wp2
    go_ret2
    exact ⟨rfl, rfl⟩
  · have H1 := Lib.hid (may_yes ha)
    cases hb : mayB b
    · have H2 := Lib.hid (may_no hb)
      clear h ha hb
      go_enter Tryd.func12, Tryd.ntmps12
      go_wp2_with fail
      refine (H1.out _).mono ?_
      rintro e w' ⟨rfl, rfl⟩
      go_wp2_with fail
      refine (H2.out _).mono ?_
      rintro e w' ⟨rfl, rfl⟩
      go_wp2
      go_ret2
      exact ⟨rfl, rfl⟩
    · have hc : mayB c = false := by simpa [mayAll, ha, hb] using h
      have H2 := Lib.hid (may_yes hb)
      have H3 := Lib.hid (may_no hc)
      clear h ha hb hc
      go_enter Tryd.func12, Tryd.ntmps12
      go_wp2_with fail
      refine (H1.out _).mono ?_
      rintro e w' ⟨rfl, rfl⟩
      go_wp2_with fail
      refine (H2.out _).mono ?_
      rintro e w' ⟨rfl, rfl⟩
      go_wp2_with fail
      refine (H3.out _).mono ?_
      rintro e w' ⟨rfl, rfl⟩
      go_wp2
      go_ret2
      exact ⟨rfl, rfl⟩

set_option maxRecDepth 100000 in
set_option maxHeartbeats 1000000 in
theorem refWords_yes (a b c : Int) (w : World) (h : mayAll a b c = true) :
    Calls Tryd.prog 12 #[.int .i64 a, .int .i64 b, .int .i64 c] w fun e w' => e = .returned (.tuple #[.string ⟨(wordsL a b c).toArray⟩, .bool true]) ∧ Below w.heap.size w w' := by
  have h' := h
  simp only [mayAll, Bool.and_eq_true] at h'
  obtain ⟨⟨ha, hb⟩, hc⟩ := h'
  obtain ⟨a0, a1⟩ := may_true ha
  obtain ⟨b0, b1⟩ := may_true hb
  obtain ⟨c0, c1⟩ := may_true hc
  have H1 := Lib.hid (may_yes ha)
  have H2 := Lib.hid (may_yes hb)
  have H3 := Lib.hid (may_yes hc)
  have ia := Lib.itoa_length_le a (by omega) (by omega)
  have ib := Lib.itoa_length_le b (by omega) (by omega)
  have ic := Lib.itoa_length_le c (by omega) (by omega)
  have IA := Lib.hid (digs_itoa ha)
  have IB := Lib.hid (digs_itoa hb)
  have IC := Lib.hid (digs_itoa hc)
  have n1 : ¬ 9223372036854775807 < 1 + (Lib.itoa a).length := by omega
  have n2 : ¬ 9223372036854775807 < 1 + (Lib.itoa a).length + 1 := by omega
  have n3 : ¬ 9223372036854775807 < 1 + (Lib.itoa a).length + 1 + (Lib.itoa b).length := by omega
  have n4 : ¬ 9223372036854775807 < 1 + (Lib.itoa a).length + 1 + (Lib.itoa b).length + 1 := by omega
  have n5 : ¬ 9223372036854775807 < 1 + (Lib.itoa a).length + 1 + (Lib.itoa b).length + 1 + (Lib.itoa c).length := by omega
  clear h ha hb hc ia ib ic
  go_enter Tryd.func12, Tryd.ntmps12
  go_wp2_with fail
  refine (H1.out _).mono ?_
  rintro e w' ⟨rfl, rfl⟩
  go_wp2_with fail
  refine (H2.out _).mono ?_
  rintro e w' ⟨rfl, rfl⟩
  go_wp2_with fail
  refine (H3.out _).mono ?_
  rintro e w' ⟨rfl, rfl⟩
  go_wp2_with fail
  refine (IA.out _).mono ?_
  rintro e w1 ⟨rfl, hb⟩
  have B1 := Lib.hid hb
  clear hb
  go_wp2_with fail
  refine (IB.out _).mono ?_
  rintro e w2 ⟨rfl, hb⟩
  have B2 := Lib.hid (B1.out.trans (hb.mono B1.out.size))
  clear hb B1
  go_wp2_with fail
  refine (IC.out _).mono ?_
  rintro e w3 ⟨rfl, hb⟩
  have B3 := Lib.hid (B2.out.trans (hb.mono B2.out.size))
  clear hb B2
  go_wp2
  refine bodyPost_ret (v := .tuple #[.string ⟨(wordsL a b c).toArray⟩, .bool true]) (by simp [results, Tryd.results12, go_sem, words_cat]) rfl ⟨rfl, B3.out⟩

end Go.Proofs.YtbknfbobidgkkaaDoor
