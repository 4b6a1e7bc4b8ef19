/- Layer 1: isOrder, hasBounds: whether a table's sets make an order, and have all joins and meets. -/
import Derived.Test.YtjfonbkeamhnmaaLatA2
import Derived.Test.YtjfonbkeamhnmaaLatB
namespace Go.Proofs.Ytjfonbkeamhnmaa
open Go.RowKit Lat

/-- Label a is below itself, to no other both ways, and has above it all that is above what is above it. -/
def meetsOne (n : Nat) (T : Nat → Nat → Bool) (a : Nat) : Bool := (List.range n).all fun x => (T a x && T x a) == (x == a)
def closedAt (n : Nat) (T : Nat → Nat → Bool) (a b : Nat) : Bool := !T a b || onSide n (T b) (T a)
def goodAt (n : Nat) (T : Nat → Nat → Bool) (a : Nat) : Bool := meetsOne n T a && (List.range n).all fun b => closedAt n T a b
def orderT (n : Nat) (T : Nat → Nat → Bool) : Bool := (List.range n).all fun a => goodAt n T a

theorem isOrder_any (lb n : Nat) (T : Nat → Nat → Bool) (w : World) (h : IsLat w lb n T) :
    Calls Try.prog 39 #[.pointer (some ⟨lb, 0, none⟩)] w fun e w' => e = .returned (.bool (orderT n T)) ∧ ∃ k, w' = w.drewN k := by
  obtain ⟨ub, db, d, js, ms, hl⟩ := h
  have c0 := hl.cells.1
  have c1 := hl.cells.2.1
  have hle := hl.le
  obtain ⟨U, hr, hU⟩ := hl.up
  obtain ⟨D, hr', hD⟩ := hl.dn
  have HR := Lib.hid hr; have HR' := Lib.hid hr'; have HU := Lib.hid hU; have HD := Lib.hid hD
  clear hl hr hr' hU hD
  go_enter Try.func39, Try.ntmps39
  go_wp2
  go_loopw [12] (fun i wr => ∃ k m : Nat, k ≤ n ∧ i = .int .i64 k ∧ wr = w.drewN m ∧ ∀ a, a < k → goodAt n T a = true) (fun i _ => n - (intOf i).toNat)
  case atStart => exact ⟨0, 0, Nat.zero_le _, rfl, rfl, fun j hj => by omega⟩
  case round =>
    obtain ⟨k, m, hk, rfl, rfl, hno⟩ := hrel
    have HN := Lib.hid hno; clear hno
    by_cases hlt : k < n
    · have ck := HR.out.cell hlt
      have dk := HR'.out.cell hlt
      have hand := (HU.out k hlt).bits_and (HD.out k hlt)
      have hne := (HU.out k hlt).ne_one (HD.out k hlt) hlt hle
      have hlk := (HU.out k hlt).lt
      cases hm1 : meetsOne n T k
      · have hne' : ((((U k &&& D k : Nat) : Int)) != IntKind.u64.wrap (2 ^ k)) = true := by
          rw [hne, show ((List.range n).all fun x => (T k x && flipT T k x) == (x == k)) = false from hm1]; rfl
        have HM := Lib.hid hm1
        clear hne hm1
        go_wp2
        go_quiet (fail)
        go_wp2
        go_ret
        exact ⟨ret_bool (all_range_false hlt (by simp [goodAt, HM.out])).symm, _, World.drewN_drewN _ _ _⟩
      · have hne' : ((((U k &&& D k : Nat) : Int)) != IntKind.u64.wrap (2 ^ k)) = false := by
          rw [hne, show ((List.range n).all fun x => (T k x && flipT T k x) == (x == k)) = true from hm1]; rfl
        have HM := Lib.hid hm1
        clear hne hm1
        go_wp2
        go_quiet (fail)
        go_wp2
        go_loop [34] (fun i => ∃ j : Nat, j ≤ n ∧ i = .int .i64 j ∧ ∀ b, b < j → closedAt n T k b = true) (fun i => n - (intOf i).toNat)
        case atStart => exact ⟨0, Nat.zero_le _, rfl, fun j hj => by omega⟩
        case round =>
          obtain ⟨j, hj, rfl, hno⟩ := hrel
          have HJ := Lib.hid hno; clear hno
          by_cases hjt : j < n
          · have cj := HR.out.cell hjt
            have hb := (HU.out k hlt).bit j
            simp only [hjt, decide_true, Bool.true_and] at hb
            have ha := (HU.out j hjt).andNot (HU.out k hlt)
            cases h1 : T k j
            · rw [h1] at hb
              have H1 := Lib.hid h1
              clear ha h1
              go_wp2_with (go_at_call 45; refine (has_any _ _ hlk (by omega) _).mono ?_; rintro e w' ⟨rfl, rfl⟩)
              go_round
              case rel => exact ⟨j + 1, by omega, by go_num, fun b hb => by
                by_cases e : b = j
                · subst e; simp [closedAt, H1.out]
                · exact HJ.out b (by omega)⟩
              case measure => simp [intOf]; omega
            · rw [h1] at hb
              have H1 := Lib.hid h1
              clear h1
              cases h2 : onSide n (T j) (T k)
              · have ha' : (bits .andNot .u64 (U j : Int) (U k : Int) != 0) = true := by rw [bne, ha, h2]; rfl
                have H2 := Lib.hid h2
                clear ha h2
                go_wp2_with (go_at_call 45; refine (has_any _ _ hlk (by omega) _).mono ?_; rintro e w' ⟨rfl, rfl⟩)
                go_ret
                exact ⟨ret_bool (all_range_false hlt (by simp only [goodAt, HM.out, Bool.true_and]; exact all_range_false hjt (by simp [closedAt, H1.out, H2.out]))).symm, _, rfl⟩
              · have ha' : (bits .andNot .u64 (U j : Int) (U k : Int) != 0) = false := by rw [bne, ha, h2]; rfl
                have H2 := Lib.hid h2
                clear ha h2
                go_wp2_with (go_at_call 45; refine (has_any _ _ hlk (by omega) _).mono ?_; rintro e w' ⟨rfl, rfl⟩)
                go_round
                case rel => exact ⟨j + 1, by omega, by go_num, fun b hb => by
                  by_cases e : b = j
                  · subst e; simp [closedAt, H2.out]
                  · exact HJ.out b (by omega)⟩
                case measure => simp [intOf]; omega
          · have hjn : j = n := by omega
            have HG := Lib.hid (show goodAt n T k = true by simp only [goodAt, HM.out, Bool.true_and]; exact all_range_true (hjn ▸ HJ.out))
            clear hjn
            go_wp2
            go_roundw
            case rel => exact ⟨k + 1, _, by omega, by go_num, rfl, fun b hb => by
              by_cases e : b = k
              · subst e; exact HG.out
              · exact HN.out b (by omega)⟩
            case measure => simp [intOf]; omega
    · have hkn : k = n := by omega
      have HG := Lib.hid (show orderT n T = true from all_range_true (hkn ▸ HN.out))
      clear hkn
      go_wp2
      go_ret
      exact ⟨ret_bool HG.out.symm, _, rfl⟩

def boundedAt (n : Nat) (T : Nat → Nat → Bool) (a b : Nat) : Bool := decide (0 ≤ joinT n T a b) && decide (0 ≤ joinT n (flipT T) a b)
def boundedT (n : Nat) (T : Nat → Nat → Bool) : Bool := (List.range n).all fun a => (List.range n).all fun b => boundedAt n T a b

theorem hasBounds_any (lb n : Nat) (T : Nat → Nat → Bool) (w : World) (h : IsLat w lb n T) :
    Calls Try.prog 40 #[.pointer (some ⟨lb, 0, none⟩)] w fun e w' => e = .returned (.bool (boundedT n T)) ∧ ∃ k, w' = w.drewN k := by
  obtain ⟨ub, db, d, js, ms, hl⟩ := h
  have c0 := hl.cells.1
  have c1 := hl.cells.2.1
  have hle := hl.le
  obtain ⟨U, hr, hU⟩ := hl.up
  obtain ⟨D, hr', hD⟩ := hl.dn
  have BU := fun (m x y : Nat) (hx : x < n) (hy : y < n) => bound_any ub n U T x y (w.drewN m) hle (fun i hi => hr.cell hi) hU hx hy
  have BD := fun (m x y : Nat) (hx : x < n) (hy : y < n) => bound_any db n D (flipT T) x y (w.drewN m) hle (fun i hi => hr'.cell hi) hD hx hy
  have HBU := Lib.hid BU; have HBD := Lib.hid BD
  clear hl hr hr' hU hD BU BD
  go_enter Try.func40, Try.ntmps40
  go_wp2
  go_loopw [10] (fun i wr => ∃ k m : Nat, k ≤ n ∧ i = .int .i64 k ∧ wr = w.drewN m ∧ ∀ a, a < k → ((List.range n).all fun b => boundedAt n T a b) = true) (fun i _ => n - (intOf i).toNat)
  case atStart => exact ⟨0, 0, Nat.zero_le _, rfl, rfl, fun j hj => by omega⟩
  case round =>
    obtain ⟨k, m, hk, rfl, rfl, hno⟩ := hrel
    have HN := Lib.hid hno; clear hno
    by_cases hlt : k < n
    · go_wp2
      go_loopw [18] (fun i wr => ∃ j m : Nat, j ≤ n ∧ i = .int .i64 j ∧ wr = w.drewN m ∧ ∀ b, b < j → boundedAt n T k b = true) (fun i _ => n - (intOf i).toNat)
      case atStart => exact ⟨0, m, Nat.zero_le _, rfl, rfl, fun j hj => by omega⟩
      case round =>
        obtain ⟨j, m', hj, rfl, rfl, hno⟩ := hrel
        have HJ := Lib.hid hno; clear hno
        by_cases hjt : j < n
        · by_cases h1 : joinT n T k j < 0
          · have H1 := Lib.hid (show boundedAt n T k j = false by simp [boundedAt]; omega)
            go_wp2_with (go_at_call 51; refine (HBU.out _ k j hlt hjt).mono ?_; rintro e w' ⟨rfl, q, rfl⟩)
            go_ret
            exact ⟨ret_bool (all_range_false hlt (all_range_false hjt H1.out)).symm, _, rfl⟩
          · by_cases h2 : joinT n (flipT T) k j < 0
            · have H1 := Lib.hid (show boundedAt n T k j = false by simp [boundedAt]; omega)
              have h1' : decide (joinT n T k j < 0) = false := by simpa using h1
              go_wp2_with fail
              refine (HBU.out _ k j hlt hjt).mono ?_
              rintro e w' ⟨rfl, q, rfl⟩
              go_wp2_with fail
              refine (HBD.out _ k j hlt hjt).mono ?_
              rintro e w' ⟨rfl, q, rfl⟩
              go_wp2
              go_ret
              exact ⟨ret_bool (all_range_false hlt (all_range_false hjt H1.out)).symm, _, rfl⟩
            · have H1 := Lib.hid (show boundedAt n T k j = true by simp [boundedAt]; omega)
              have h1' : decide (joinT n T k j < 0) = false := by simpa using h1
              have h2' : decide (joinT n (flipT T) k j < 0) = false := by simpa using h2
              go_wp2_with fail
              refine (HBU.out _ k j hlt hjt).mono ?_
              rintro e w' ⟨rfl, q, rfl⟩
              go_wp2_with fail
              refine (HBD.out _ k j hlt hjt).mono ?_
              rintro e w' ⟨rfl, q, rfl⟩
              go_wp2
              go_roundw
              case rel => exact ⟨j + 1, _, by omega, by go_num, rfl, fun b hb => by
                by_cases e : b = j
                · subst e; exact H1.out
                · exact HJ.out b (by omega)⟩
              case measure => simp [intOf]; omega
        · have hjn : j = n := by omega
          have HG := Lib.hid (show ((List.range n).all fun b => boundedAt n T k b) = true from all_range_true (hjn ▸ HJ.out))
          clear hjn
          go_wp2
          go_roundw
          case rel => exact ⟨k + 1, _, by omega, by go_num, rfl, fun b hb => by
            by_cases e : b = k
            · subst e; exact HG.out
            · exact HN.out b (by omega)⟩
          case measure => simp [intOf]; omega
    · have hkn : k = n := by omega
      have HG := Lib.hid (show boundedT n T = true from all_range_true (hkn ▸ HN.out))
      clear hkn
      go_wp2
      go_ret
      exact ⟨ret_bool HG.out.symm, _, rfl⟩
end Go.Proofs.Ytjfonbkeamhnmaa
