/- Layer 9: WidthCuts' walk. -/
import Derived.Test.YtablkipcngbkjaaDoorWdD
import Derived.Test.YtablkipcngbkjaaDoorWdO
import Derived.OwnWalk
import Derived.BigFrame
import Derived.Deep.AppendLies
import Derived.Laws.OwnMore
set_option linter.unusedVariables false
namespace Go.Proofs.YtablkipcngbkjaaDoor
open Go.RowKit Wid

/-- A slice of the call's own that holds these characters. -/
def OwnR (w : World) (base : Nat) (v : Value) (l : List Int) : Prop := w.ownsRow base 21 1 v l.length (runesV l)
theorem info_rune : (Tryd.prog.info? 21).map (fun i => (i.zero, i.size, i.bytes)) = some (some (.int .i32 0), 1, 4) := by kernel_rfl
theorem runes_len (l : List Int) : (runesV l).length = l.length := by simp [runesV]
theorem own_ge {w : World} {base : Nat} {v : Value} {l : List Int} (h : OwnR w base v l) : ∀ g, v.ownBlock = some g → base ≤ g := by
  intro g hg
  rcases h.2 with ⟨rfl, _⟩ | ⟨g', cap, cur, rfl, hb, _⟩
  · simp [Value.ownBlock] at hg
  · have : g' = g := by simpa [Value.ownBlock] using hg
    omega
theorem own_form {w : World} {base : Nat} {v : Value} {l : List Int} (h : OwnR w base v l) : ∃ A c, v = .slice A l.length c ∧ RunesAt w w.heap.size A l := by
  rcases h.2 with ⟨rfl, h0⟩ | ⟨g, cap, cur, rfl, _, hh, _⟩
  · exact ⟨none, 0, by rw [h0], fun hp => by omega⟩
  · refine ⟨some ⟨g, 0, none⟩, cap, rfl, fun _ => ⟨g, 0, rfl, (Array.getElem?_eq_some_iff.1 hh).1, fun i hi => ?_⟩⟩
    have := World.ownsRow.cells (w := w) h (g := g) rfl i (.int .i32 l[i]) (by simp [runesV, hi])
    rwa [add_off] at this
theorem own_empty (w : World) (base : Nat) (hb : base ≤ w.heap.size) : OwnR (w.alloc (.cells #[] 21)) base (.slice (some ⟨w.heap.size, 0, none⟩) 0 0) [] :=
  ⟨rfl, Or.inr ⟨w.heap.size, 0, #[], rfl, hb, Deep.blk_alloc_new _ _, by simp [runesV]⟩⟩

/-- append of characters that lie anywhere to a slice of the call's own. -/
theorem append_any {ops : Array Oper} {rest : List Oper} {o : Oper} {a : Act} {Q : Exit → Act → World → Prop} (w : World) (hw : Region.wanted o (yielded ops a.tmps) = true) (s x : Operand)
    (ho : o.op = .call { callee := .builtin .append, args := #[s, x], argTypes := #[28, 28] }) (base : Nat) (v : Value) (xs ys : List Int) (A : Option Addr) (n c : Nat) (hs : a.eval s = v) (hown : OwnR w base v xs)
    (hx : a.eval x = .slice A n c) (hA : A = none → c = 0) (hn : n = ys.length) (hr : RunesAt w w.heap.size A ys) (hlen : xs.length + ys.length ≤ 1000000) (hbase : base ≤ w.heap.size)
    (h : ∀ v' w', OwnR w' base v' (xs ++ ys) → w.grownBy w' v.ownBlock → wpList Tryd.prog ops Q rest (a.put o.dst v') w') : wpList Tryd.prog ops Q (o :: rest) a w := by
  obtain ⟨i0, hi, hz0, hz1, hz2⟩ := info_parts info_rune
  subst hn
  cases A with
  | none =>
    have he : ys = [] := by
      cases ys with
      | nil => rfl
      | cons y l => obtain ⟨_, _, hg, _⟩ := hr (by simp); cases hg
    subst he
    obtain rfl := hA rfl
    refine BigFrame.wpList_want hw fun K hK => ?_
    have hrun := run_append_owned_none (P := Tryd.prog) (w := w) base 28 o.type 21 i0 1 Tryd.underlying28 hi v xs.length (runesV xs) hown
    unfold Oper.wp
    simp [execOp, ho, resolve, invoke, builtin, hs, hx, hrun, Result.andThen]
    refine hK _ _ (h v w ?_ ⟨rfl, rfl, rfl, Nat.le_refl _, fun _ _ _ => rfl⟩)
    rw [List.append_nil]
    exact hown
  | some ad =>
    refine BigFrame.wpList_want hw fun K hK => ?_
    refine wp_append_own w s x 28 ho base 21 i0 (.int .i32 0) 1 4 Tryd.underlying28 hi hz0 hz1 hz2 rfl (by decide) v xs.length (runesV xs) hs hown ad ys.length c (runesV ys) hx (by simp [runesV]) ?_ ?_ (by unfold maxLen; omega) (by omega) hbase ?_
    · intro j y hy
      have hj : j < ys.length := by
        have := (List.getElem?_eq_some_iff.1 hy).1
        simpa [runesV] using this
      obtain ⟨b, o', e, _, hcell⟩ := hr (by omega)
      cases e
      rw [add_off, hcell j hj, ← hy]
      simp [runesV, hj]
    · intro y hy
      simp only [runesV, List.mem_map] at hy
      obtain ⟨r, _, rfl⟩ := hy
      rfl
    · intro v' w' h2 h3 _
      refine hK _ _ (h v' w' ?_ h3)
      unfold OwnR
      rw [List.length_append, show runesV (xs ++ ys) = runesV xs ++ runesV ys by simp [runesV]]
      exact h2

theorem cuts_big1 (n cc m cd : Nat) (A B : Option Addr) (c : Int) (w : World) (hn : n ≤ 9223372036854775807) (h : 300 < n) (hT : WTab w) :
    Calls Tryd.prog 6 #[.slice A n cc, .slice B m cd, .int .i64 c] w fun e w' => e = .returned (.bool true) ∧ Below w.heap.size w w' := by
  have HA := Lib.hid (awake_any w hT)
  have g1 : decide ((300 : Int) < n) = true := by simp; omega
  clear hT
  go_enter Tryd.func6, Tryd.ntmps6
  go_wp2_with fail
  refine HA.out.mono ?_
  rintro e w1 ⟨rfl, hb⟩
  have B1 := Lib.hid hb
  clear hb HA
  go_wp2
  go_ret
  exact ⟨rfl, B1.out⟩
theorem cuts_big2 (n cc m cd : Nat) (A B : Option Addr) (c : Int) (w : World) (hn : n ≤ 300) (hm : m ≤ 9223372036854775807) (h : 300 < m) (hT : WTab w) :
    Calls Tryd.prog 6 #[.slice A n cc, .slice B m cd, .int .i64 c] w fun e w' => e = .returned (.bool true) ∧ Below w.heap.size w w' := by
  have HA := Lib.hid (awake_any w hT)
  have g1 : decide ((300 : Int) < n) = false := by simp; omega
  have g2 : decide ((300 : Int) < m) = true := by simp; omega
  clear hT
  go_enter Tryd.func6, Tryd.ntmps6
  go_wp2_with fail
  refine HA.out.mono ?_
  rintro e w1 ⟨rfl, hb⟩
  have B1 := Lib.hid hb
  clear hb HA
  go_wp2
  go_ret
  exact ⟨rfl, B1.out⟩
theorem cuts_low (n cc m cd : Nat) (A B : Option Addr) (c : Int) (w : World) (hn : n ≤ 300) (hm : m ≤ 300) (hc : c < 0) (hT : WTab w) :
    Calls Tryd.prog 6 #[.slice A n cc, .slice B m cd, .int .i64 c] w fun e w' => e = .returned (.bool true) ∧ Below w.heap.size w w' := by
  have HA := Lib.hid (awake_any w hT)
  have g1 : decide ((300 : Int) < n) = false := by simp; omega
  have g2 : decide ((300 : Int) < m) = false := by simp; omega
  have HL := Lib.hid (cut_low A n cc c · hc)
  clear hT
  go_enter Tryd.func6, Tryd.ntmps6
  go_wp2_with fail
  refine HA.out.mono ?_
  rintro e w1 ⟨rfl, hb⟩
  have B1 := Lib.hid hb
  clear hb HA
  go_wp2_with fail
  refine (HL.out _).mono ?_
  rintro e w2 ⟨rfl, rfl⟩
  go_wp2
  go_ret
  exact ⟨rfl, B1.out⟩

set_option maxHeartbeats 2000000 in
theorem cuts_small (a b : List Int) (n cc m cd : Nat) (A B : Option Addr) (c : Int) (w : World) (hR : RunesAt w w.heap.size A a) (hS : RunesAt w w.heap.size B b) (hna : n = a.length) (hmb : m = b.length) (hn : n ≤ 300) (hm : m ≤ 300)
    (hcc : n ≤ cc) (hA : A = none → cc = 0) (hB : B = none → cd = 0) (hc : 0 ≤ c) (hc2 : c ≤ 9223372036854775807) (hT : WTab w) :
    Calls Tryd.prog 6 #[.slice A n cc, .slice B m cd, .int .i64 c] w fun e w' => e = .returned (.bool true) ∧ Below w.heap.size w w' := by
  have HAw := Lib.hid (awake_any w hT)
  have g1 : decide ((300 : Int) < n) = false := by simp; omega
  have g2 : decide ((300 : Int) < m) = false := by simp; omega
  have HT := Lib.hid hT
  have HR := Lib.hid hR
  have HS := Lib.hid hS
  have HN := Lib.hid hna
  have HM := Lib.hid hmb
  have HNA := Lib.hid hA
  have HNB := Lib.hid hB
  clear hT hR hS hna hmb hA hB
  go_enter Tryd.func6, Tryd.ntmps6
  go_wp2_with fail
  refine HAw.out.mono ?_
  rintro e w1 ⟨rfl, hb⟩
  have B1 := Lib.hid hb
  clear hb HAw
  go_wp2_with fail
  refine (cut_any a _ _ _ _ _ (HT.out.below B1.out (Nat.le_refl _)) ((HR.out.below B1.out (Nat.le_refl _)).more B1.out.size) HN.out (by omega) hc hc2).mono ?_
  rintro e w2 ⟨k, hF, rfl, hb⟩
  have B2 := Lib.hid (B1.out.trans (hb.mono B1.out.size))
  have HF := Lib.hid hF
  have hkn : k ≤ n := by rw [HN.out]; exact hF.le
  have hs0 := (sum_in (a.take k)).1
  have hsc := hF.sum
  have HCt := Lib.hid (fun (W : World) (hW : Below w.heap.size w W) => text_any (a.take k) A k cc W (HT.out.below hW (Nat.le_refl _)) (((HR.out.below hW (Nat.le_refl _)).more hW.size).take k) (by rw [List.length_take]; have := HN.out; omega) (by omega))
  clear hb B1 hF
  obtain ⟨s, Hs⟩ : ∃ s, Hid (s = sumV (a.take k)) := ⟨_, Lib.hid rfl⟩
  rw [← Hs.out] at hs0 hsc HCt ⊢
  obtain ⟨d, Hd⟩ : ∃ d, Hid (d = c - s) := ⟨_, Lib.hid rfl⟩
  rw [← Hd.out]
  have hd0 : 0 ≤ d := by rw [Hd.out]; omega
  have hd1 : d ≤ 9223372036854775807 := by rw [Hd.out]; omega
  have hcd : c - d = s := by rw [Hd.out]; omega
  have g3 : decide (n < k) = false := by simp; omega
  have g4 : decide (d < 0) = false := by simp; omega
  have g5 : decide (c < 0) = false := by simp; omega
  have g6 : k ≤ cc := by omega
  have hAd := add_none A
  have g8 : decide ((k : Int) < 0) = false := by simp
  obtain ⟨sa, Hsa⟩ : ∃ x, Hid (x = sumV a) := ⟨_, Lib.hid rfl⟩
  obtain ⟨sb, Hsb⟩ : ∃ x, Hid (x = sumV b) := ⟨_, Lib.hid rfl⟩
  have ha0 : 0 ≤ sa ∧ sa ≤ 2 * (n : Int) := by rw [Hsa.out, HN.out]; exact sum_in a
  have hb0 : 0 ≤ sb ∧ sb ≤ 2 * (m : Int) := by rw [Hsb.out, HM.out]; exact sum_in b
  obtain ⟨ha0, ha1⟩ := ha0
  obtain ⟨hb0, hb1⟩ := hb0
  by_cases hlt : k < n
  · have hlt' : k < a.length := by rw [← HN.out]; exact hlt
    obtain ⟨bb, o, rfl, hbb, hcell⟩ := HR.out.at_ hlt'
    have HN1 := Lib.hid (show c < s + ofV a[k] by have := HF.out.next hlt'; rwa [sum_succ hlt', ← Hs.out] at this)
    have HOf := Lib.hid (fun (W : World) (hW : Below w.heap.size w W) => of_any a[k] W (HT.out.below hW (Nat.le_refl _)))
    generalize a[k] = r at hcell HN1 HOf
    generalize ofV r = q at HN1 HOf
    have g7 : decide (q ≤ d) = false := by have := HN1.out; simp; omega
    go_wp2_with fail
    refine (HCt.out _ B2.out).mono ?_
    rintro e w3 ⟨rfl, hb⟩
    have B3 := Lib.hid (B2.out.trans (hb.mono B2.out.size))
    have hc3 := (B3.out.cell (p := ⟨bb, o + k, none⟩) hbb).trans hcell
    clear hb B2
    go_wp2_with fail
    refine (HOf.out _ B3.out).mono ?_
    rintro e w4 ⟨rfl, hb⟩
    have B4 := Lib.hid (B3.out.trans (hb.mono B3.out.size))
    clear hb B3 hc3 hcell HOf HN1
    clear HF HCt
    have zB4 := B4.out.size
    have HE := Lib.hid (own_empty w4 w.heap.size zB4)
    go_wp2_with (at_builtin; refine append_any _ rfl (.tmp 69) (.tmp 70) rfl w.heap.size _ [] a _ n cc rfl HE.out rfl HNA.out HN.out ((HR.out.below (B4.out.alloc zB4 _) (Nat.le_refl _)).more ?e1) ?e2 ?e3 ?_)
    case e1 => simp; omega
    case e2 => have := HN.out; simp; omega
    case e3 => simp; omega
    intro v1 w5 hown1 hg1
    have B5 := Lib.hid ((B4.out.alloc zB4 _).grown hg1 (by simp; omega) (own_ge HE.out))
    have HO1 : Hid (OwnR w5 w.heap.size v1 a) := Lib.hid hown1
    have z5 := B5.out.size
    clear hown1 hg1 B4 HE
    go_wp2_with (at_builtin; refine append_any _ rfl (.tmp 71) (.tmp 72) rfl w.heap.size v1 a b _ m cd (by rfl) HO1.out rfl HNB.out HM.out ((HS.out.below B5.out (Nat.le_refl _)).more z5) ?f2 z5 ?_)
    case f2 => have := HN.out; have := HM.out; simp; omega
    intro v2 w6 hown2 hg2
    have B6 := Lib.hid (B5.out.grown hg2 z5 (own_ge HO1.out))
    have z6 := B6.out.size
    obtain ⟨A2, c2, rfl, hr2⟩ := own_form hown2
    obtain ⟨N, hN⟩ : ∃ N, N = (a ++ b).length := ⟨_, rfl⟩
    have HN2 := Lib.hid hN
    have hN3 : N ≤ 600 := by rw [hN]; have := HN.out; have := HM.out; simp; omega
    rw [← hN]
    have HTx := Lib.hid (text_any (a ++ b) A2 N c2 w6 (HT.out.below B6.out (Nat.le_refl _)) hr2 hN (by omega))
    have hsum : sumV (a ++ b) = sa + sb := by rw [sum_append, Hsa.out, Hsb.out]
    rw [hsum] at HTx
    have HTa := Lib.hid (fun (W : World) (hW : Below w.heap.size w W) => text_any a _ n cc W (HT.out.below hW (Nat.le_refl _)) ((HR.out.below hW (Nat.le_refl _)).more hW.size) HN.out (by omega))
    have HTb := Lib.hid (fun (W : World) (hW : Below w.heap.size w W) => text_any b _ m cd W (HT.out.below hW (Nat.le_refl _)) ((HS.out.below hW (Nat.le_refl _)).more hW.size) HM.out (by omega))
    rw [← Hsa.out] at HTa
    rw [← Hsb.out] at HTb
    clear hown2 hg2 hr2 hN hsum B5 HO1
    go_wp2_with fail
    refine HTx.out.mono ?_
    rintro e w7 ⟨rfl, hb⟩
    have B7 := Lib.hid (B6.out.trans (hb.mono B6.out.size))
    clear hb B6
    go_wp2_with fail
    refine (HTa.out _ B7.out).mono ?_
    rintro e w8 ⟨rfl, hb⟩
    have B8 := Lib.hid (B7.out.trans (hb.mono B7.out.size))
    clear hb B7
    go_wp2_with fail
    refine (HTb.out _ B8.out).mono ?_
    rintro e w9 ⟨rfl, hb⟩
    have B9 := Lib.hid (B8.out.trans (hb.mono B8.out.size))
    clear hb B8
    go_wp2_with fail
    refine (HTa.out _ B9.out).mono ?_
    rintro e w10 ⟨rfl, hb⟩
    have B10 := Lib.hid (B9.out.trans (hb.mono B9.out.size))
    clear hb B9
    go_wp2
    go_ret
    exact ⟨rfl, B10.out⟩
  · go_wp2_with fail
    refine (HCt.out _ B2.out).mono ?_
    rintro e w3 ⟨rfl, hb⟩
    have B3 := Lib.hid (B2.out.trans (hb.mono B2.out.size))
    clear hb B2
    clear HF HCt
    have zB3 := B3.out.size
    have HE := Lib.hid (own_empty w3 w.heap.size zB3)
    go_wp2_with (at_builtin; refine append_any _ rfl (.tmp 69) (.tmp 70) rfl w.heap.size _ [] a _ n cc rfl HE.out rfl HNA.out HN.out ((HR.out.below (B3.out.alloc zB3 _) (Nat.le_refl _)).more ?e1) ?e2 ?e3 ?_)
    case e1 => simp; omega
    case e2 => have := HN.out; simp; omega
    case e3 => simp; omega
    intro v1 w5 hown1 hg1
    have B5 := Lib.hid ((B3.out.alloc zB3 _).grown hg1 (by simp; omega) (own_ge HE.out))
    have HO1 : Hid (OwnR w5 w.heap.size v1 a) := Lib.hid hown1
    have z5 := B5.out.size
    clear hown1 hg1 B3 HE
    go_wp2_with (at_builtin; refine append_any _ rfl (.tmp 71) (.tmp 72) rfl w.heap.size v1 a b _ m cd (by rfl) HO1.out rfl HNB.out HM.out ((HS.out.below B5.out (Nat.le_refl _)).more z5) ?f2 z5 ?_)
    case f2 => have := HN.out; have := HM.out; simp; omega
    intro v2 w6 hown2 hg2
    have B6 := Lib.hid (B5.out.grown hg2 z5 (own_ge HO1.out))
    have z6 := B6.out.size
    obtain ⟨A2, c2, rfl, hr2⟩ := own_form hown2
    obtain ⟨N, hN⟩ : ∃ N, N = (a ++ b).length := ⟨_, rfl⟩
    have HN2 := Lib.hid hN
    have hN3 : N ≤ 600 := by rw [hN]; have := HN.out; have := HM.out; simp; omega
    rw [← hN]
    have HTx := Lib.hid (text_any (a ++ b) A2 N c2 w6 (HT.out.below B6.out (Nat.le_refl _)) hr2 hN (by omega))
    have hsum : sumV (a ++ b) = sa + sb := by rw [sum_append, Hsa.out, Hsb.out]
    rw [hsum] at HTx
    have HTa := Lib.hid (fun (W : World) (hW : Below w.heap.size w W) => text_any a _ n cc W (HT.out.below hW (Nat.le_refl _)) ((HR.out.below hW (Nat.le_refl _)).more hW.size) HN.out (by omega))
    have HTb := Lib.hid (fun (W : World) (hW : Below w.heap.size w W) => text_any b _ m cd W (HT.out.below hW (Nat.le_refl _)) ((HS.out.below hW (Nat.le_refl _)).more hW.size) HM.out (by omega))
    rw [← Hsa.out] at HTa
    rw [← Hsb.out] at HTb
    clear hown2 hg2 hr2 hN hsum B5 HO1
    go_wp2_with fail
    refine HTx.out.mono ?_
    rintro e w7 ⟨rfl, hb⟩
    have B7 := Lib.hid (B6.out.trans (hb.mono B6.out.size))
    clear hb B6
    go_wp2_with fail
    refine (HTa.out _ B7.out).mono ?_
    rintro e w8 ⟨rfl, hb⟩
    have B8 := Lib.hid (B7.out.trans (hb.mono B7.out.size))
    clear hb B7
    go_wp2_with fail
    refine (HTb.out _ B8.out).mono ?_
    rintro e w9 ⟨rfl, hb⟩
    have B9 := Lib.hid (B8.out.trans (hb.mono B8.out.size))
    clear hb B8
    go_wp2_with fail
    refine (HTa.out _ B9.out).mono ?_
    rintro e w10 ⟨rfl, hb⟩
    have B10 := Lib.hid (B9.out.trans (hb.mono B9.out.size))
    clear hb B9
    go_wp2
    go_ret
    exact ⟨rfl, B10.out⟩

theorem cuts_walk (n cc : Nat) (A : Option Addr) (X : List Int) (m cd : Nat) (B : Option Addr) (Y : List Int) (c : Int) (w : World) (hR : RunesAt w w.heap.size A X) (hn : n ≤ 9223372036854775807) (hcc : n ≤ cc ∧ (A = none → cc = 0)) (hX : n = X.length)
    (hS : RunesAt w w.heap.size B Y) (hm : m ≤ 9223372036854775807) (hcd : m ≤ cd ∧ (B = none → cd = 0)) (hY : m = Y.length) (hw : (Lit.int .i64 c).wf = true) (hT : WTab w) :
    Calls Tryd.prog 6 #[.slice A n cc, .slice B m cd, .int .i64 c] w fun e w' => e = .returned (.bool true) ∧ Below w.heap.size w w' := by
  have hb : -9223372036854775808 ≤ c ∧ c ≤ 9223372036854775807 := by
    simp [Lit.wf, IntKind.min, IntKind.max, IntKind.signed, IntKind.bits] at hw
    omega
  by_cases h1 : 300 < n
  · exact cuts_big1 n cc m cd A B c w hn h1 hT
  by_cases h2 : 300 < m
  · exact cuts_big2 n cc m cd A B c w (by omega) hm h2 hT
  by_cases h3 : c < 0
  · exact cuts_low n cc m cd A B c w (by omega) (by omega) h3 hT
  · exact cuts_small X Y n cc m cd A B c w hR hS hX hY (by omega) (by omega) hcc.1 hcc.2 hcd.2 (by omega) hb.2 hT
end Go.Proofs.YtablkipcngbkjaaDoor
