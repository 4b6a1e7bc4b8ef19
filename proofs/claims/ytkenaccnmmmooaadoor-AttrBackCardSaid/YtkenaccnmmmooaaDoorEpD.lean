/- Layer 8: the program's tellRune, cutOff, tellEsc, tellString. -/
import Derived.Test.YtkenaccnmmmooaaDoorEpC
namespace Go.Proofs.YtkenaccnmmmooaaDoor
open Go.RowKit Ev

theorem PStep.from_ {w w1 : World} {a : Nat} {q : Q} {L : List EV} {e : Ending} {w' : World} (h : PStep w1 a q L e w') (hs : Stirs a 0 1183 w w1) : PStep w a q L e w' := ⟨h.1, h.2.1, hs.trans h.2.2⟩

theorem bP (r : Int) (W : World) : (Instr.build 45 #[(0, .int .i64 1), (1, .int .i32 r)]).run Tryd.prog W = .ok (.agg #[.int .i64 1, .int .i32 r, .int .u8 0, .string ⟨#[]⟩, .slice none 0 0, .string ⟨#[]⟩]) W := run_build W 45 #[(0, .int .i64 1), (1, .int .i32 r)] _ (by kernel_rfl)
theorem bX (x : Int) (W : World) : (Instr.build 45 #[(0, .int .i64 2), (2, .int .u8 x)]).run Tryd.prog W = .ok (.agg #[.int .i64 2, .int .i32 0, .int .u8 x, .string ⟨#[]⟩, .slice none 0 0, .string ⟨#[]⟩]) W := run_build W 45 #[(0, .int .i64 2), (2, .int .u8 x)] _ (by kernel_rfl)
theorem bE (x : Int) (M : ByteArray) (W : World) : (Instr.build 45 #[(0, .int .i64 3), (3, .string M), (2, .int .u8 x)]).run Tryd.prog W = .ok (.agg #[.int .i64 3, .int .i32 0, .int .u8 x, .string M, .slice none 0 0, .string ⟨#[]⟩]) W := run_build W 45 #[(0, .int .i64 3), (3, .string M), (2, .int .u8 x)] _ (by kernel_rfl)
theorem bC (x : Int) (M : ByteArray) (A : Option Addr) (n c : Nat) (W : World) : (Instr.build 45 #[(0, .int .i64 4), (3, .string M), (4, .slice A n c), (2, .int .u8 x)]).run Tryd.prog W = .ok (.agg #[.int .i64 4, .int .i32 0, .int .u8 x, .string M, .slice A n c, .string ⟨#[]⟩]) W := run_build W 45 #[(0, .int .i64 4), (3, .string M), (4, .slice A n c), (2, .int .u8 x)] _ (by kernel_rfl)
theorem bO (X : ByteArray) (W : World) : (Instr.build 45 #[(0, .int .i64 5), (5, .string X)]).run Tryd.prog W = .ok (.agg #[.int .i64 5, .int .i32 0, .int .u8 0, .string ⟨#[]⟩, .slice none 0 0, .string X]) W := run_build W 45 #[(0, .int .i64 5), (5, .string X)] _ (by kernel_rfl)
theorem bD (x : Int) (M X : ByteArray) (A : Option Addr) (n c : Nat) (W : World) : (Instr.build 45 #[(0, .int .i64 6), (3, .string M), (4, .slice A n c), (2, .int .u8 x), (5, .string X)]).run Tryd.prog W = .ok (.agg #[.int .i64 6, .int .i32 0, .int .u8 x, .string M, .slice A n c, .string X]) W := run_build W 45 #[(0, .int .i64 6), (3, .string M), (4, .slice A n c), (2, .int .u8 x), (5, .string X)] _ (by kernel_rfl)

theorem no_tab (w : World) : P7.TabT w none [] := fun h => absurd h (by simp)
theorem no_form : Form none 0 [] := Or.inl ⟨rfl, rfl, rfl⟩

theorem rune_any {w : World} {a : Nat} {q : Q} {L : List EV} (h : IsP w a q L) (r : Nat) : Calls Tryd.prog 51 #[.pointer (some ⟨a, 0, none⟩), .int .i32 (r : Int)] w (PStep w a q (L ++ [printE r])) := by
  have kb := bP (r : Int)
  have HC := Lib.hid (put_any h (printE r) 1 r 0 ⟨#[]⟩ ⟨#[]⟩ none 0 0 rfl (no_tab w) no_form)
  clear h
  go_enter Tryd.func51, Tryd.ntmps51
  go_wp2_with fail
  refine (show Calls _ _ _ _ _ from HC.out).mono ?_
  rintro e w1 ⟨rfl, h1, h2⟩
  have HP := Lib.hid (And.intro h1 h2)
  clear h1 h2 HC
  go_wp2
  go_end0
  exact ⟨rfl, HP.out⟩

theorem cut_any {w : World} {a : Nat} {q : Q} {L : List EV} (h : IsP w a q L) : Calls Tryd.prog 30 #[.pointer (some ⟨a, 0, none⟩)] w (PStep w a { q with kept := [] } (L ++ markE q)) := by
  by_cases hk : q.kept = []
  · have HC := Lib.hid (D5.end_none a 0 w (by rw [← hk]; exact h.dec))
    have HP : Hid (PStep w a { q with kept := [] } (L ++ markE q) (.returned (.tuple #[])) w) := Lib.hid ⟨rfl, by
      rw [show L ++ markE q = L by simp [markE, hk], show ({ q with kept := [] } : Q) = q by rw [← hk]]
      exact h, Stirs.refl _ _ _ _⟩
    clear h hk
    go_enter Tryd.func30, Tryd.ntmps30
    go_wp2_with fail
    refine (show Calls _ _ _ _ _ from HC.out).mono ?_
    rintro e w1 ⟨rfl, rfl⟩
    clear HC
    go_wp2
    go_end0
    exact HP.out
  · have HC := Lib.hid (D5.end_some a 0 q.kept w h.dec hk)
    have E : Hid (markE q = [printE 65533]) := Lib.hid (by simp [markE, hk])
    have H := Lib.hid h
    clear h hk
    go_enter Tryd.func30, Tryd.ntmps30
    go_wp2_with fail
    refine (show Calls _ _ _ _ _ from HC.out).mono ?_
    rintro e w1 ⟨rfl, h1, h2⟩
    have h3 := H.out.decoded h2 h1
    have HR := Lib.hid (rune_any h3 65533)
    have HS : Hid (Stirs a 0 1183 w w1) := Lib.hid (h2.wider (by omega) (by omega))
    clear h1 h2 h3 HC H
    go_wp2_with fail
    refine (show Calls _ _ _ _ _ from HR.out).mono ?_
    rintro e w2 hp
    have HP := Lib.hid (hp.from_ HS.out)
    obtain ⟨rfl, _, _⟩ := hp
    rw [← E.out] at HP
    clear HR
    go_wp2
    go_end0
    exact HP.out

theorem esc_any {w : World} {a : Nat} {q : Q} {L : List EV} (h : IsP w a q L) (b : UInt8) : Calls Tryd.prog 61 #[.pointer (some ⟨a, 0, none⟩), .int .u8 (b.toNat : Int)] w (PStep w a q (L ++ (doE 5 q b).1)) := by
  have HM := Lib.hid (many_any h)
  have HSelf : Hid (PStep w a q L (.returned (.tuple #[])) w) := Lib.hid ⟨rfl, h, Stirs.refl _ _ _ _⟩
  by_cases hm : 2 < q.mids.length
  · have E : Hid (L ++ (doE 5 q b).1 = L) := Lib.hid (by simp [doE]; omega)
    have d1 : decide (2 < q.mids.length) = true := by simpa using hm
    rw [d1] at HM
    rw [E.out]
    clear h hm d1
    go_enter Tryd.func61, Tryd.ntmps61
    go_wp2_with fail
    refine (show Calls _ _ _ _ _ from HM.out).mono ?_
    rintro e w1 ⟨rfl, rfl⟩
    clear HM
    go_wp2
    first | go_end0 | (try simp only [Exit.inBlock, Exit.then]); refine bodyPost_ret (results_none rfl _ _ _) rfl ?_
    exact HSelf.out
  · have d1 : decide (2 < q.mids.length) = false := by simpa using hm
    rw [d1] at HM
    have c0 := h.col
    have HMi : Hid (Calls Tryd.prog 55 #[.pointer (some ⟨a, 6, none⟩)] w.drew fun e w' => e = .returned (.string (strK q.mids)) ∧ Below w.heap.size w w') := Lib.hid ((mids_any (h.below (below_drew (Below.refl _ _) 1)) (by omega)).mono fun e w' ⟨e1, j, e2⟩ => ⟨e1, by rw [e2]; exact below_drew (below_drew (Below.refl _ _) 1) j⟩)
    obtain ⟨n, hn⟩ : ∃ n, n = q.mids.length := ⟨_, rfl⟩
    obtain ⟨x, hx⟩ : ∃ x, x = b.toNat := ⟨_, rfl⟩
    rw [← hn] at c0
    by_cases h92 : x = 92 ∧ n = 0
    · obtain ⟨h1, h2⟩ := h92
      have hmn : q.mids = [] := List.eq_nil_of_length_eq_zero (by omega)
      have E : Hid (L ++ (doE 5 q b).1 = L) := Lib.hid (by simp [doE, hmn]; omega)
      rw [E.out]
      rw [← hx]
      clear h hm d1 hn hx hmn HMi
      subst h1 h2
      go_enter Tryd.func61, Tryd.ntmps61
      go_wp2_with fail
      refine (show Calls _ _ _ _ _ from HM.out).mono ?_
      rintro e w1 ⟨rfl, rfl⟩
      clear HM
      go_wp2
      first | go_end0 | (try simp only [Exit.inBlock, Exit.then]); refine bodyPost_ret (results_none rfl _ _ _) rfl ?_
      exact HSelf.out
    · have E : Hid ((doE 5 q b).1 = [⟨3, 0, x, q.mids, [], []⟩]) := Lib.hid (by
        have hq : q.mids.length ≤ 2 ∧ (b.toNat ≠ 92 ∨ q.mids ≠ []) := ⟨by omega, by
          by_cases h1 : b.toNat = 92
          · right
            intro e
            rw [e] at hn
            exact h92 ⟨by omega, by simpa using hn⟩
          · exact Or.inl h1⟩
        unfold doE
        simp [hq, hx])
      have HC : Hid (∀ W : World, Below w.heap.size w W → Calls Tryd.prog 52 #[.pointer (some ⟨a, 1181, none⟩), .agg #[.int .i64 3, .int .i32 0, .int .u8 x, .string (strK q.mids), .slice none 0 0, .string ⟨#[]⟩]] W (PStep w a q (L ++ (doE 5 q b).1))) := Lib.hid (fun W hW => (put_any (h.below hW) ⟨3, 0, x, q.mids, [], []⟩ 3 0 x (strK q.mids) ⟨#[]⟩ none 0 0 rfl (no_tab _) no_form).mono fun e w' hp => by
        rw [E.out]
        exact hp.from_ ((Stirs.refl _ _ _ _).andthen hW (Nat.le_refl _) h.lt))
      obtain ⟨M, hM⟩ : ∃ M, M = strK q.mids := ⟨_, rfl⟩
      rw [← hM] at HMi HC
      have kb := bE (x : Int) M
      have d2 : ((x : Int) == 92) = false ∨ (((x : Int) == 92) = true ∧ ((n : Int) == 0) = false) := by
        by_cases e : x = 92
        · right
          have : n ≠ 0 := fun e2 => h92 ⟨e, e2⟩
          exact ⟨by simp [e], by simpa using this⟩
        · left; simp; omega
      rw [← hx]
      clear h hm d1 hn hx hM h92 E HSelf
      rcases d2 with d2 | ⟨d2, d3⟩
      all_goals
        go_enter Tryd.func61, Tryd.ntmps61
        go_wp2_with fail
        refine (show Calls _ _ _ _ _ from HM.out).mono ?_
        rintro e w1 ⟨rfl, rfl⟩
        clear HM
        go_wp2_with fail
        go_region_held3 (fun _ => True) (first | trivial | go_keep)
          (first | (go_at_call 55; (with_reducible refine HMi.out.mono ?_); rintro e w4 ⟨rfl, k1⟩) | (go_at_call 52; (with_reducible refine (HC.out w4 k1).mono ?_); rintro e w5 ⟨rfl, hp⟩; have HP := Lib.hid hp; clear hp))
        go_wp2
        go_end0
        exact ⟨rfl, HP.out⟩
end Go.Proofs.YtkenaccnmmmooaaDoor
