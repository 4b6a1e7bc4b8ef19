/- Layer 1: the document's New. -/
import Derived.Test.YtjfonbkeamhnmaaDocA
import Derived.Test.YtjfonbkeamhnmaaLatF
import Derived.Deep.Slices
namespace Go.Proofs.Ytjfonbkeamhnmaa
open Go.RowKit Lat

/-- What the document asks of label a beside b. -/
def MidAt (n : Nat) (T : Nat → Nat → Bool) (a b : Nat) : Prop := (a ≠ b → T a b = true → T b a = false) ∧ ∀ c, c < n → T a b = true → T b c = true → T a c = true
def OrdAt (n : Nat) (T : Nat → Nat → Bool) (a : Nat) : Prop := T a a = true ∧ ∀ b, b < n → MidAt n T a b

theorem all_range_iff (n : Nat) (p : Nat → Bool) : (List.range n).all p = true ↔ ∀ j, j < n → p j = true := by
  rw [List.all_eq_true]
  exact ⟨fun h j hj => h j (List.mem_range.2 hj), fun h x hx => h x (List.mem_range.1 hx)⟩

theorem goodAt_iff (n : Nat) (T : Nat → Nat → Bool) (a : Nat) (ha : a < n) : goodAt n T a = true ↔ OrdAt n T a := by
  unfold goodAt meetsOne
  rw [Bool.and_eq_true, all_range_iff, all_range_iff]
  constructor
  · rintro ⟨h1, h2⟩
    refine ⟨?_, fun b hb => ⟨fun hne hab => ?_, fun c hc hab hbc => ?_⟩⟩
    · have := h1 a ha
      simpa using this
    · have := h1 b hb
      rw [hab, Bool.true_and, beq_iff_eq] at this
      rw [this]
      simp
      omega
    · have := h2 b hb
      unfold closedAt at this
      rw [hab] at this
      simp only [Bool.not_true, Bool.false_or] at this
      exact (onSide_iff _ _ _).1 this c hc hbc
  · rintro ⟨h1, h2⟩
    refine ⟨fun x hx => ?_, fun b hb => ?_⟩
    · by_cases e : x = a
      · subst e; simp [h1]
      · have e' : (x == a) = false := by simp [e]
        rw [e', beq_iff_eq]
        cases hab : T a x
        · rfl
        · rw [(h2 x hx).1 (fun h => e h.symm) hab]; rfl
    · unfold closedAt
      cases hab : T a b
      · rfl
      · simp only [Bool.not_true, Bool.false_or]
        exact (onSide_iff _ _ _).2 fun y hy hby => (h2 b hb).2 y hy hab hby

theorem order_iff (n : Nat) (T : Nat → Nat → Bool) : orderT n T = true ↔ ∀ a, a < n → OrdAt n T a := by
  unfold orderT
  rw [all_range_iff]
  exact ⟨fun h a ha => (goodAt_iff n T a ha).1 (h a ha), fun h a ha => (goodAt_iff n T a ha).2 (h a ha)⟩
theorem order_not {n : Nat} {T : Nat → Nat → Bool} {a : Nat} (ha : a < n) (h : ¬ OrdAt n T a) : (orderT n T && boundedT n T) = false := by
  cases ho : orderT n T
  · rfl
  · exact absurd ((order_iff n T).1 ho a ha) h

/-- A square table, its rows by functions. -/
theorem Grid.rows {w : World} {B n : Nat} {A : Option Addr} {L : Nat → Nat} {T : Nat → Nat → Bool} (h : Grid w B A n L T) (hn : 1 ≤ n) (hL : ∀ r, r < n → L r = n) :
    ∃ (ad : Addr) (R : Nat → Addr) (C : Nat → Nat), A = some ad ∧ ∀ r, r < n → w.cell? (ad.add r) = some (.slice (some (R r)) n (C r)) ∧ ∀ c, c < n → w.cell? ((R r).add c) = some (.bool (T r c)) := by
  obtain ⟨ad, e, _, hr⟩ := h (by omega)
  obtain ⟨f, hf⟩ := Deep.choose_lt (α := Addr × Nat) (n := n) (p := fun r x => w.cell? (ad.add r) = some (.slice (some x.1) n x.2) ∧ ∀ c, c < n → w.cell? (x.1.add c) = some (.bool (T r c))) (fun r hlt => by
    obtain ⟨A', C, hc, _, hx⟩ := hr r hlt
    rw [hL r hlt] at hc hx
    obtain ⟨a', rfl, _, _⟩ := hx 0 (by omega)
    refine ⟨(a', C), hc, fun c hcl => ?_⟩
    obtain ⟨a'', e2, _, h2⟩ := hx c hcl
    injection e2 with e2
    rw [e2]
    exact h2)
  exact ⟨ad, fun r => (f r).1, fun r => (f r).2, e, hf⟩

theorem refNew_long (n cap : Nat) (A : Option Addr) (w : World) (hn : n < 1 ∨ 64 < n) (hm : n ≤ 9223372036854775807) :
    Calls Try.prog 15 #[.slice A n cap] w fun e w' => e = .returned (.int .i64 3) ∧ w = w' := by
  rcases hn with hn | hn
  · go_enter Try.func15, Try.ntmps15
    go_wp2
    go_ret
    exact ⟨rfl, rfl⟩
  · have hd : decide ((n : Int) < 1) = false := by simp; omega
    go_enter Try.func15, Try.ntmps15
    go_wp2
    go_ret
    exact ⟨rfl, rfl⟩

set_option maxRecDepth 100000 in
set_option maxHeartbeats 6400000 in
theorem refNew_any (n cap B : Nat) (A : Option Addr) (L : Nat → Nat) (T : Nat → Nat → Bool) (w : World) (hG : Grid w B A n L T) (hm : n ≤ 9223372036854775807) :
    Calls Try.prog 15 #[.slice A n cap] w fun e w' => e = .returned (.int .i64 (newErr n L T)) ∧ w = w' := by
  by_cases hn : n < 1 ∨ 64 < n
  · rw [show newErr n L T = 3 from by rw [newErr, if_pos hn]]
    exact refNew_long n cap A w hn hm
  have h1 : 1 ≤ n := by omega
  have h2 : n ≤ 64 := by omega
  have d1 : decide ((n : Int) < 1) = false := by simp; omega
  have d2 : decide (64 < (n : Int)) = false := by simp; omega
  have HN := Lib.hid hn
  clear hn
  obtain ⟨ad, hA, _, hr⟩ := hG (by omega)
  subst hA
  have HR := Lib.hid hr
  have HG := Lib.hid hG
  clear hr hG
  go_enter Try.func15, Try.ntmps15
  go_wp2
  go_loop [4] (fun i => ∃ k : Nat, k ≤ n ∧ i = .int .i64 k ∧ ∀ r, r < k → L r = n) (fun i => n - (intOf i).toNat)
  case atStart => exact ⟨0, Nat.zero_le _, rfl, fun j hj => by omega⟩
  case round =>
    obtain ⟨k, hk, rfl, hno⟩ := hrel
    have HK := Lib.hid hno; clear hno
    by_cases hlt : k < n
    · obtain ⟨A', C, hc, hl, _⟩ := HR.out k hlt
      by_cases hL : L k = n
      · have hd : ((L k : Int) != (n : Int)) = false := by simp [hL]
        have HL := Lib.hid hL; clear hL
        go_wp2
        go_round
        case rel => exact ⟨k + 1, by omega, by go_num, fun r hr => by
          by_cases e : r = k
          · subst e; exact HL.out
          · exact HK.out r (by omega)⟩
        case measure => simp [intOf]; omega
      · have hd : ((L k : Int) != (n : Int)) = true := by simp; omega
        have E := Lib.hid (err_form T HN.out hlt hL)
        clear hL
        go_wp2
        go_ret
        exact ⟨ret_int E.out.symm, rfl⟩
    · have hkn : k = n := by omega
      subst hkn
      have HS := Lib.hid (show square k L = true from all_range_true fun r hr => by simp [HK.out r hr])
      obtain ⟨ad', R, C, hA, hcell⟩ := HG.out.rows h1 HK.out
      injection hA with hA
      subst hA
      have HC := Lib.hid hcell
      have HSq := Lib.hid (show Sq w B (some ad) k T from ⟨by
        intro hp
        obtain ⟨a, e, hb, hx⟩ := HG.out hp
        refine ⟨a, e, hb, fun r hr => ?_⟩
        have := hx r hr
        rw [HK.out r hr] at this
        exact this, by omega⟩)
      have ERR := Lib.hid (fun (h : (orderT k T && boundedT k T) = false) => err_arg (L := L) HN.out HS.out h)
      have OKK := Lib.hid (fun (h : orderT k T = true) (h' : boundedT k T = true) => err_ok (L := L) HN.out HS.out h h')
      clear hcell HR HG HK HS HN
      go_wp2
      go_loop [5] (fun i => ∃ x : Nat, x ≤ k ∧ i = .int .i64 x ∧ ∀ a, a < x → OrdAt k T a) (fun i => k - (intOf i).toNat)
      case atStart => exact ⟨0, Nat.zero_le _, rfl, fun j hj => by omega⟩
      case round =>
        obtain ⟨x, hx, rfl, hno⟩ := hrel
        have HX := Lib.hid hno; clear hno
        by_cases hxt : x < k
        · have rx := (HC.out x hxt).1
          have cxx := (HC.out x hxt).2 x hxt
          cases hxx : T x x
          · have E := Lib.hid (ERR.out (order_not hxt (fun h => by rw [h.1] at hxx; cases hxx)))
            rw [hxx] at cxx
            clear hxx
            go_wp2
            go_ret
            exact ⟨ret_int E.out.symm, rfl⟩
          · have HXX := Lib.hid hxx
            rw [hxx] at cxx
            clear hxx
            go_wp2
            clear cxx
            go_loop [6] (fun i => ∃ y : Nat, y ≤ k ∧ i = .int .i64 y ∧ ∀ b, b < y → MidAt k T x b) (fun i => k - (intOf i).toNat)
            case atStart => exact ⟨0, Nat.zero_le _, rfl, fun j hj => by omega⟩
            case round =>
              obtain ⟨y, hy, rfl, hno⟩ := hrel
              have HY := Lib.hid hno; clear hno
              by_cases hyt : y < k
              · have ry := (HC.out y hyt).1
                have cxy := (HC.out x hxt).2 y hyt
                have cyx := (HC.out y hyt).2 x hxt
                go_upto_region 17 with fail
                go_cut [68] (fun s68 wc => s68 = .bool (((x : Int) != (y : Int)) && T x y && T y x) ∧ w = wc)
                case first =>
                  cases e1 : ((x : Int) != (y : Int))
                  · go_wp2
                    go_meet
                    exact ⟨by rw [e1]; rfl, rfl⟩
                  · cases e2 : T x y
                    · rw [e2] at cxy
                      go_wp2
                      go_meet
                      exact ⟨by rw [e1, e2]; rfl, rfl⟩
                    · rw [e2] at cxy
                      go_wp2
                      go_meet
                      exact ⟨by rw [e1, e2]; simp, rfl⟩
                case rest =>
                  obtain ⟨rfl, rfl⟩ := hcut
                  cases hbad : (((x : Int) != (y : Int)) && T x y && T y x)
                  · have HM1 := Lib.hid (show x ≠ y → T x y = true → T y x = false from fun hne hxy => by
                      have e1 : ((x : Int) != (y : Int)) = true := by simp; omega
                      rw [e1, hxy] at hbad
                      simpa using hbad)
                    clear hbad cyx
                    go_wp2
                    go_loop [7] (fun i => ∃ z : Nat, z ≤ k ∧ i = .int .i64 z ∧ ∀ c, c < z → T x y = true → T y c = true → T x c = true) (fun i => k - (intOf i).toNat)
                    case atStart => exact ⟨0, Nat.zero_le _, rfl, fun j hj => by omega⟩
                    case round =>
                      obtain ⟨z, hz, rfl, hno⟩ := hrel
                      have HZ := Lib.hid hno; clear hno
                      by_cases hzt : z < k
                      · have cyz := (HC.out y hyt).2 z hzt
                        have cxz := (HC.out x hxt).2 z hzt
                        go_upto_region 22 with fail
                        go_cut [99] (fun s99 wc => s99 = .bool (T x y && T y z && !T x z) ∧ w = wc)
                        case first =>
                          cases e1 : T x y
                          · rw [e1] at cxy
                            go_wp2
                            go_meet
                            exact ⟨by rw [e1]; rfl, rfl⟩
                          · rw [e1] at cxy
                            cases e2 : T y z
                            · rw [e2] at cyz
                              go_wp2
                              go_meet
                              exact ⟨by rw [e1, e2]; rfl, rfl⟩
                            · rw [e2] at cyz
                              go_wp2
                              go_meet
                              exact ⟨by rw [e1, e2]; simp, rfl⟩
                        case rest =>
                          obtain ⟨rfl, rfl⟩ := hcut
                          cases hbad : (T x y && T y z && !T x z)
                          · have HB1 := Lib.hid (show T x y = true → T y z = true → T x z = true from fun h1 h2 => by
                              rw [h1, h2] at hbad
                              simpa using hbad)
                            clear hbad
                            go_wp2
                            go_round
                            case rel => exact ⟨z + 1, by omega, by go_num, fun c hc => by
                              by_cases e : c = z
                              · subst e; exact HB1.out
                              · exact HZ.out c (by omega)⟩
                            case measure => simp [intOf]; omega
                          · have E := Lib.hid (ERR.out (order_not hxt (fun h => by
                              simp only [Bool.and_eq_true, Bool.not_eq_true'] at hbad
                              have := (h.2 y hyt).2 z hzt hbad.1.1 hbad.1.2
                              rw [hbad.2] at this
                              cases this)))
                            clear hbad
                            go_wp2
                            go_ret
                            exact ⟨ret_int E.out.symm, rfl⟩
                      · have hzn : z = k := by omega
                        subst hzn
                        go_wp2
                        go_round
                        case rel => exact ⟨y + 1, by omega, by go_num, fun b hb => by
                          by_cases e : b = y
                          · subst e; exact ⟨HM1.out, HZ.out⟩
                          · exact HY.out b (by omega)⟩
                        case measure => simp [intOf]; omega
                  · have E := Lib.hid (ERR.out (order_not hxt (fun h => by
                      simp only [Bool.and_eq_true] at hbad
                      have hne : x ≠ y := by have := hbad.1.1; simp at this; omega
                      have := (h.2 y hyt).1 hne hbad.1.2
                      rw [hbad.2] at this
                      cases this)))
                    clear hbad
                    go_wp2
                    go_ret
                    exact ⟨ret_int E.out.symm, rfl⟩
              · have hyn : y = k := by omega
                subst hyn
                go_wp2
                go_round
                case rel => exact ⟨x + 1, by omega, by go_num, fun a ha => by
                  by_cases e : a = x
                  · subst e; exact ⟨HXX.out, HY.out⟩
                  · exact HX.out a (by omega)⟩
                case measure => simp [intOf]; omega
        · have hxn : x = k := by omega
          subst hxn
          have HO := Lib.hid ((order_iff x T).2 HX.out)
          have HJ := Lib.hid (fun (p q : Nat) => refJoin_any x cap B (some ad) T p q w HSq.out)
          have HMt := Lib.hid (fun (p q : Nat) => refMeet_any x cap B (some ad) T p q w HSq.out)
          clear HX HC HSq
          go_wp2
          go_loop [8] (fun i => ∃ p : Nat, p ≤ x ∧ i = .int .i64 p ∧ ∀ a, a < p → ((List.range x).all fun b => boundedAt x T a b) = true) (fun i => x - (intOf i).toNat)
          case atStart => exact ⟨0, Nat.zero_le _, rfl, fun j hj => by omega⟩
          case round =>
            obtain ⟨p, hp, rfl, hno⟩ := hrel
            have HP := Lib.hid hno; clear hno
            by_cases hpt : p < x
            · go_wp2
              go_loop [9] (fun i => ∃ q : Nat, q ≤ x ∧ i = .int .i64 q ∧ ∀ b, b < q → boundedAt x T p b = true) (fun i => x - (intOf i).toNat)
              case atStart => exact ⟨0, Nat.zero_le _, rfl, fun j hj => by omega⟩
              case round =>
                obtain ⟨q, hq, rfl, hno⟩ := hrel
                have HQ := Lib.hid hno; clear hno
                by_cases hqt : q < x
                · have EJ := Lib.hid (show joinV x T p q = joinT x T p q by simp [joinV, isLabel, hpt, hqt])
                  have EM := Lib.hid (show joinV x (flipT T) p q = joinT x (flipT T) p q by simp [joinV, isLabel, hpt, hqt])
                  by_cases hj : joinT x T p q < 0
                  · have E := Lib.hid (ERR.out (show (orderT x T && boundedT x T) = false by
                      rw [show boundedT x T = false from all_range_false hpt (all_range_false hqt (by simp [boundedAt]; omega)), Bool.and_false]))
                    have hd : decide (joinT x T p q < 0) = true := by simpa using hj
                    go_wp2_with fail
                    refine (HJ.out _ _).mono ?_
                    rw [EJ.out]
                    rintro e w' ⟨rfl, rfl⟩
                    go_wp2
                    go_ret
                    exact ⟨ret_int E.out.symm, rfl⟩
                  · have hd : decide (joinT x T p q < 0) = false := by simpa using hj
                    by_cases hm2 : joinT x (flipT T) p q < 0
                    · have E := Lib.hid (ERR.out (show (orderT x T && boundedT x T) = false by
                        rw [show boundedT x T = false from all_range_false hpt (all_range_false hqt (by simp [boundedAt]; omega)), Bool.and_false]))
                      have hd2 : decide (joinT x (flipT T) p q < 0) = true := by simpa using hm2
                      go_wp2_with fail
                      refine (HJ.out _ _).mono ?_
                      rw [EJ.out]
                      rintro e w' ⟨rfl, rfl⟩
                      go_wp2_with fail
                      refine (HMt.out _ _).mono ?_
                      rw [EM.out]
                      rintro e w' ⟨rfl, rfl⟩
                      go_wp2
                      go_ret
                      exact ⟨ret_int E.out.symm, rfl⟩
                    · have hd2 : decide (joinT x (flipT T) p q < 0) = false := by simpa using hm2
                      have HB1 := Lib.hid (show boundedAt x T p q = true by simp [boundedAt]; omega)
                      go_wp2_with fail
                      refine (HJ.out _ _).mono ?_
                      rw [EJ.out]
                      rintro e w' ⟨rfl, rfl⟩
                      go_wp2_with fail
                      refine (HMt.out _ _).mono ?_
                      rw [EM.out]
                      rintro e w' ⟨rfl, rfl⟩
                      go_wp2
                      go_round
                      case rel => exact ⟨q + 1, by omega, by go_num, fun b hb => by
                        by_cases e : b = q
                        · subst e; exact HB1.out
                        · exact HQ.out b (by omega)⟩
                      case measure => simp [intOf]; omega
                · have hqn : q = x := by omega
                  subst hqn
                  go_wp2
                  go_round
                  case rel => exact ⟨p + 1, by omega, by go_num, fun a ha => by
                    by_cases e : a = p
                    · subst e; exact all_range_true HQ.out
                    · exact HP.out a (by omega)⟩
                  case measure => simp [intOf]; omega
            · have hpn : p = x := by omega
              subst hpn
              have E := Lib.hid (OKK.out HO.out (all_range_true HP.out))
              go_wp2
              go_ret
              exact ⟨ret_int E.out.symm, rfl⟩
end Go.Proofs.Ytjfonbkeamhnmaa
