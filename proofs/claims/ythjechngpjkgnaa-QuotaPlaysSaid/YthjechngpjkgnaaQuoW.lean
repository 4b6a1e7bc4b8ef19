/- Layer 3: QuotaApart's walk. -/
import Derived.Test.YthjechngpjkgnaaQuoV
namespace Go.Proofs.Ythjechngpjkgnaa
open Go.RowKit Go.Maps Go.ChangeMaps

theorem str_ne {a b : ByteArray} (h : ¬ a = b) : (a.toList == b.toList) = false := by
  rw [ByteArray.toList_eq, ByteArray.toList_eq]
  exact beq_false_of_ne (fun e => h (WideShapes.bytes_inj e))

abbrev actBox (a : Act) : Obj := .cells #[.int .i64 a.d, .int .i64 a.n, .string a.k] 45 (0, 0)

theorem act_cells {w : World} {p : Nat} {d n : Int} {k : ByteArray} (h : w.heap[p]? = some (.cells #[.int .i64 d, .int .i64 n, .string k] 45 (0, 0))) : w.cell? ⟨p, 0, none⟩ = some (.int .i64 d) ∧ w.cell? ⟨p, 1, none⟩ = some (.int .i64 n) ∧ w.cell? ⟨p, 2, none⟩ = some (.string k) := by
  refine ⟨?_, ?_, ?_⟩ <;> rw [cell_of h] <;> rfl

/-- What holds at the head of the loop. -/
def ApartRel (w0 : World) (len q p : Nat) (most : Int) (key : ByteArray) (s i : Value) (wr : World) : Prop :=
  ∃ (k : Nat) (T U : Value → Int), k ≤ len ∧ i = .int .i64 k ∧ s = .int .i64 (T (.string key)) ∧ U (.string key) = T (.string key) ∧ TwoB w0 wr w0.heap.size q p most T U 0 none

set_option maxRecDepth 100000 in
set_option maxHeartbeats 1600000 in
theorem apart_walk (most : Int) (len cap : Nat) (A : Option Addr) (X : Nat → Act) (key : ByteArray) (w : World) (hA : ActsIn w w.heap.size A len X) (hlen : len ≤ 9223372036854775807) (hk : key.size ≤ maxLen) :
    Calls Try.prog 6 #[.int .i64 most, .slice A len cap, .string key] w fun e w' => e = .returned (.bool true) ∧ Below w.heap.size w w' := by
  have hnot : ∀ (x : Bool) (w : World), (Op.unary .not (.bool x)).run Try.prog w = .ok (.bool (!x)) w := fun _ _ => rfl
  have HA := Lib.hid hA
  have HK := Lib.hid hk
  have hk1 : key.size ≤ 9223372036854775807 := by unfold maxLen at hk; omega
  clear hA hk
  go_enter Try.func6, Try.ntmps6
  go_wp2_with fail
  refine (awake_any w).mono ?_
  rintro e w1 ⟨rfl, hb⟩
  have HB := Lib.hid hb
  clear hb
  go_wp2_with fail
  refine (great_any len cap w.heap.size A X w1 (HA.out.below HB.out) hlen).mono ?_
  rintro e w2 ⟨g, rfl, rfl, hg⟩
  cases g with
  | true =>
    clear hg
    go_wp2_with fail
    go_ret
    exact ⟨rfl, HB.out⟩
  | false =>
  have hl := hg rfl
  clear hg
  by_cases hkl : 2000 < key.size
  · go_wp2_with fail
    go_ret
    exact ⟨rfl, HB.out⟩
  by_cases hm : most < 0 ∨ 1099511627776 < most
  · go_wp2_with fail
    refine (new_none most _ hm).mono ?_
    rintro e w2 ⟨rfl, rfl⟩
    go_wp2_with fail
    refine (new_none most _ hm).mono ?_
    rintro e w2 ⟨rfl, rfl⟩
    go_wp2_with fail
    go_ret
    exact ⟨rfl, HB.out⟩
  have hm1 : 0 ≤ most ∧ most ≤ 1099511627776 := by omega
  clear hm
  go_wp2_with fail
  refine (new_some most _ hm1).mono ?_
  rintro e w2 ⟨q, m, rfl, hq, hm, hQ, hb⟩
  have HN := Lib.hid (two_new (w0 := w) hm1 ⟨Nat.le_trans HB.out.size hq, Nat.le_trans HB.out.size hm⟩ hQ (HB.out.trans (hb.mono HB.out.size)))
  clear hq hm hQ hb
  go_wp2_with fail
  refine HN.out.mono ?_
  rintro e w3 ⟨p, rfl, hT⟩
  have HT := Lib.hid hT
  clear hT HN
  go_wp2_with fail
  go_loopw [11, 12] (fun s i wr => ApartRel w len q p most key s i wr) (fun _ i _ => len - (intOf i).toNat)
  case atStart => exact ⟨0, _, _, Nat.zero_le _, rfl, rfl, rfl, HT.out⟩
  case round =>
    obtain ⟨k, T, U, hk, rfl, rfl, hU, hT⟩ := hrel
    clear HT
    have HT := Lib.hid hT
    have HU := Lib.hid hU
    have hf := hT.fits (.string key)
    have hold := hT.old
    have hacts := HA.out.below hold
    have hb := Lib.hid hold
    clear hT hU hold
    by_cases hlt : k < len
    · obtain ⟨b, o, rfl, hbl, hs, x0, x1, x2⟩ := hacts.at_ hlt
      generalize (X k).d = d at x0
      generalize (X k).n = y at x1
      generalize (X k).k = kk at x2 hs
      have HS : Hid (kk.size ≤ maxLen) := Lib.hid (by unfold maxLen; omega)
      clear hacts
      have HT1 := Lib.hid (HT.out.alloc (.cells #[.int .i64 d, .int .i64 y, .string kk] 45 (0, 0)))
      clear HT
      by_cases hd1 : d = 1
      · subst hd1
        go_wp2_with fail
        refine (two_tick HT1.out).mono ?_
        rintro e w4 ⟨rfl, hT⟩
        have HT2 := Lib.hid hT
        clear hT
        go_wp2_with fail
        refine (two_tick HT2.out.swap).mono ?_
        rintro e w5 ⟨rfl, hT⟩
        have HT3 := Lib.hid hT.swap.forget
        clear hT
        go_wp2_with fail
        go_roundw
        case rel => exact ⟨k + 1, _, _, by omega, by go_num, rfl, rfl, HT3.out⟩
        case measure => simp [intOf]; omega
      have e1 : (d == 1) = false := by simpa using hd1
      by_cases hd0 : d = 0
      · subst hd0
        by_cases hkk : kk = key
        · subst hkk
          cases hr : okB most (T (.string kk)) y with
          | true =>
            have hy : 0 ≤ y ∧ y ≤ most - T (.string kk) := by simpa [okB] using hr
            have HR := Lib.hid hr
            clear hr
            go_wp2_with fail
            refine (two_take kk y HT1.out HS.out HR.out).mono ?_
            rintro e w4 ⟨rfl, T', hT, hoth, hsame⟩
            obtain ⟨y0, y1, y2⟩ := act_cells (hT.beside _ rfl)
            have HS' : Hid (T' (.string kk) = T (.string kk) + y) := Lib.hid hsame
            have HP := Lib.hid (two_take kk y hT.swap HS.out (r := true) (by rw [HU.out]; exact HR.out))
            clear hT hoth hsame
            go_wp2_with fail
            refine HP.out.mono ?_
            rintro e w5 ⟨rfl, U', hT, hoth, hsame⟩
            clear y0 y1 y2
            obtain ⟨y0, y1, y2⟩ := act_cells (hT.beside _ rfl)
            have HU' : Hid (U' (.string kk) = T (.string kk) + y) := Lib.hid (by rw [hsame, HU.out]; rfl)
            have HT2 := Lib.hid hT.swap
            clear hT hoth hsame HP
            go_wp2_with fail
            refine (two_left kk HT2.out HS.out (r := most - (T (.string kk) + y)) (by rw [HS'.out])).mono ?_
            rintro e w6 ⟨rfl, j, rfl⟩
            go_wp2_with fail
            go_roundw
            case rel => exact ⟨k + 1, T', U', by omega, by go_num, by rw [HS'.out], by rw [HU'.out, HS'.out], (HT2.out.drewN j).forget⟩
            case measure => simp [intOf]; omega
          | false =>
            have hy : y < 0 ∨ 0 ≤ y ∧ most - T (.string kk) < y := by
              simp [okB] at hr
              omega
            have HR := Lib.hid hr
            clear hr
            rcases hy with hy | ⟨hy, hy2⟩
            all_goals
              go_wp2_with fail
              refine (two_take kk y HT1.out HS.out HR.out).mono ?_
              rintro e w4 ⟨rfl, T', hT, hoth, hsame⟩
              obtain ⟨y0, y1, y2⟩ := act_cells (hT.beside _ rfl)
              have HS' : Hid (T' (.string kk) = T (.string kk)) := Lib.hid hsame
              have HP := Lib.hid (two_take kk y hT.swap HS.out (r := false) (by rw [HU.out]; exact HR.out))
              clear hT hoth hsame
              go_wp2_with fail
              refine HP.out.mono ?_
              rintro e w5 ⟨rfl, U', hT, hoth, hsame⟩
              clear y0 y1 y2
              obtain ⟨y0, y1, y2⟩ := act_cells (hT.beside _ rfl)
              have HU' : Hid (U' (.string kk) = T (.string kk)) := Lib.hid (by rw [hsame, HU.out]; rfl)
              have HT2 := Lib.hid hT.swap
              clear hT hoth hsame HP
              go_wp2_with fail
              refine (two_left kk HT2.out HS.out (r := most - T (.string kk)) (by rw [HS'.out])).mono ?_
              rintro e w6 ⟨rfl, j, rfl⟩
              go_wp2_with fail
              go_roundw
              case rel => exact ⟨k + 1, T', U', by omega, by go_num, by rw [HS'.out], by rw [HU'.out, HS'.out], (HT2.out.drewN j).forget⟩
              case measure => simp [intOf]; omega
        · have q1 := str_ne hkk
          have HN : Hid ((Value.string key) ≠ .string kk) := Lib.hid (fun e => hkk (by injection e with e; exact e.symm))
          go_wp2_with fail
          refine (two_take kk y HT1.out HS.out rfl).mono ?_
          rintro e w4 ⟨rfl, T', hT, hoth, hsame⟩
          obtain ⟨y0, y1, y2⟩ := act_cells (hT.beside _ rfl)
          have HS' : Hid (T' (.string key) = T (.string key)) := Lib.hid (hoth _ HN.out)
          have HT2 := Lib.hid hT.forget
          clear hT hoth hsame
          go_wp2_with fail
          go_roundw
          case rel => exact ⟨k + 1, T', U, by omega, by go_num, by rw [HS'.out], by rw [HU.out, HS'.out], HT2.out⟩
          case measure => simp [intOf]; omega
      · have e0 : (d != 0) = true := by simpa using hd0
        go_wp2_with fail
        go_roundw
        case rel => exact ⟨k + 1, _, _, by omega, by go_num, rfl, HU.out, HT1.out.forget⟩
        case measure => simp [intOf]; omega
    · clear hacts
      go_wp2_with fail
      refine (two_left key HT.out HK.out rfl).mono ?_
      rintro e w4 ⟨rfl, j, rfl⟩
      go_wp2_with fail
      refine (two_left key (HT.out.swap.drewN j) HK.out (by rw [HU.out])).mono ?_
      rintro e w4 ⟨rfl, j2, rfl⟩
      go_wp2_with fail
      go_ret
      exact ⟨rfl, below_drew hb.out _⟩

end Go.Proofs.Ythjechngpjkgnaa
