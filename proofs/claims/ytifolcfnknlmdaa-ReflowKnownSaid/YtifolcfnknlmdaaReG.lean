/- Layer 15: the law's given and Great. -/
import Derived.Test.YtifolcfnknlmdaaReB
import Derived.Test.YtifolcfnknlmdaaReC
set_option linter.unusedVariables false
namespace Go.Proofs.Ytifolcfnknlmdaa.Re
open Go.RowKit Go.Proofs.Ytifolcfnknlmdaa.Rw

theorem grownL {T : TypeId} {B : Nat} {w0 w w' : World} {v : Value} {l : List Raw} (hb : Below B w0 w) (hg : w.grownBy w' v.ownBlock) (ho : OwnL T w B v l) (hB : B ≤ w.heap.size) : Below B w0 w' := hb.grown hg hB fun g e => (ownL_ge ho g e).1
theorem take_more {α : Type} {l : List α} {k : Nat} (d : α) (h : k < l.length) : l.take (k + 1) = l.take k ++ [l.getD k d] := by
  rw [List.take_add_one, List.getElem?_eq_getElem h, List.getD_eq_getElem?_getD, List.getElem?_eq_getElem h]
  rfl
set_option maxRecDepth 100000 in
set_option maxHeartbeats 2000000 in
theorem given_any {F : Nat → Prop} {v : Value} {ls : List LnC} {w : World} (h : LinesAt F w v ls) (hl : ls.length ≤ 1000000) : Calls Try.prog 17 #[v] w fun e w' => ∃ u, e = .returned u ∧ LinesAt (fun b => F b ∨ w.heap.size ≤ b) w' u ls ∧ Below w.heap.size w w' := by
  obtain ⟨A, c, rfl, -⟩ := id h
  obtain ⟨n, hn⟩ : ∃ n, n = ls.length := ⟨_, rfl⟩
  rw [← hn] at h hl ⊢
  obtain ⟨rs, hrl, hok, hrs⟩ := h.raws
  have HR := Lib.hid hrs
  have HL := Lib.hid h
  have HN := Lib.hid (And.intro hn hrl)
  have HK := Lib.hid hok
  clear hrs h hn hrl hok
  go_enter Try.func17, Try.ntmps17
  go_wp2
  go_loopw [3, 4] (fun u i wr => ∃ (k : Nat) (xs : List Raw) (uz : Value) (wz : World), k ≤ n ∧ i = .int .i64 k ∧ uz = u ∧ wz = wr ∧ Hid (xs = rs.take k ∧ xs.length = k) ∧ Hid (OwnL 71 wz w.heap.size uz xs) ∧ Hid (Below w.heap.size w wz)) (fun _ i _ => n - (RowKit.intOf i).toNat)
  case atStart => exact ⟨0, [], _, _, Nat.zero_le _, rfl, rfl, rfl, Lib.hid ⟨by simp, rfl⟩, Lib.hid (ownL_none _ _), Lib.hid (Below.refl _ _)⟩
  case round =>
    obtain ⟨k, xs, u, wr, hk, rfl, rfl, rfl, HX, HO, HB⟩ := hrel
    by_cases hlt : k < n
    · have glt : decide ((k : Int) < (n : Int)) = true := by simp; omega
      obtain ⟨-, -, r3, b, o, rfl, -, hb, q0, q1, q2⟩ := HR.out k hlt
      have i1 := idx_line b o n c k hlt
      have q0 := (HB.out.cell (p := ⟨b, o + k * 3, none⟩) hb).trans q0
      have q1 := (HB.out.cell (p := ⟨b, o + k * 3 + 1, none⟩) hb).trans q1
      have q2 := (HB.out.cell (p := ⟨b, o + k * 3 + 2, none⟩) hb).trans q2
      have HT : Hid (xs ++ [rs.getD k noRaw] = rs.take (k + 1)) := Lib.hid (by rw [HX.out.1]; exact (take_more noRaw (by rw [HN.out.2]; exact hlt)).symm)
      have hxl := HX.out.2
      have h1 : (rs.getD k noRaw).u.oneCell' = true := by
        obtain ⟨A', c', e, _⟩ := r3.1
        rw [e]; rfl
      have HU := Lib.hid h1
      have hal : Below wr.heap.size wr (wr.alloc (.cells #[(rs.getD k noRaw).u, .bool (rs.getD k noRaw).j, .bool (rs.getD k noRaw).s] 71)) := (Below.refl _ _).alloc (Nat.le_refl _) _
      have HO2 := Lib.hid (ownL_below HO.out hal)
      have HB2 := Lib.hid (HB.out.alloc HB.out.size (.cells #[(rs.getD k noRaw).u, .bool (rs.getD k noRaw).j, .bool (rs.getD k noRaw).s] 71))
      have H1 := Lib.hid (one_raw (T := 71) wr (rs.getD k noRaw))
      obtain ⟨r, hr⟩ : ∃ r, rs.getD k noRaw = r := ⟨_, rfl⟩
      rw [hr] at HT HU HO2 HB2 H1 q0 q1 q2
      obtain ⟨ru, rj, rss⟩ := r
      dsimp only at HU HO2 HB2 H1 q0 q1 q2
      clear r3 h1 hal hr hb HO
      go_wp2_with (at_builtin; refine append_line lineDoc _ rfl (.tmp 11) (.tmp 16) rfl w.heap.size _ xs ⟨ru, rj, rss⟩ ⟨wr.heap.size, 0, none⟩ rfl HO2.out rfl H1.out HU.out (by omega) HB2.out.size ?_)
      intro g c' w2 o2 gr
      have HB3 := Lib.hid (grownL HB2.out gr HO2.out HB2.out.size)
      have HO3 := Lib.hid o2
      have HX3 : Hid (xs ++ [⟨ru, rj, rss⟩] = rs.take (k + 1) ∧ (xs ++ [(⟨ru, rj, rss⟩ : Raw)]).length = k + 1) := Lib.hid ⟨HT.out, by rw [List.length_append, hxl]; rfl⟩
      clear o2 gr H1 HB2 HO2
      go_wp2
      go_roundw
      case rel => exact ⟨k + 1, _, _, _, by omega, by go_num, rfl, rfl, HX3, HO3, HB3⟩
      case measure => simp [RowKit.intOf]; omega
    · have hkn : k = n := by omega
      have glt : decide ((k : Int) < (n : Int)) = false := by simp; omega
      have HF : Hid (LinesAt (fun b => F b ∨ w.heap.size ≤ b) wr u ls) := Lib.hid (by
        have ho := HO.out
        rw [HX.out.1, hkn, List.take_of_length_le (by rw [HN.out.2]; exact Nat.le_refl _)] at ho
        exact ownL_lines ho (by rw [HN.out.2, HN.out.1]) fun j hj => by
          obtain ⟨a1, a2, a3, -⟩ := HR.out j (by rw [HN.out.1]; exact hj)
          exact ⟨a1, a2, a3.keep (fun b _ hb => HB.out.block b hb) HB.out.size⟩)
      clear HO hkn
      go_wp2
      go_ret
      exact ⟨_, rfl, HF.out, HB.out⟩
/-- Few enough lines, of few enough cells. -/
def smallB (ls : List LnC) : Bool := decide (ls.length ≤ 60) && ls.all fun l => decide (l.cells.length ≤ 60)
theorem small_iff (ls : List LnC) : smallB ls = true ↔ ls.length ≤ 60 ∧ ∀ k, k < ls.length → (ls.getD k noLn).cells.length ≤ 60 := by
  unfold smallB
  rw [Bool.and_eq_true, decide_eq_true_iff, List.all_eq_true]
  refine and_congr_right fun _ => ⟨fun h k hk => ?_, fun h l hl => ?_⟩
  · have := h (ls.getD k noLn) (by rw [List.getD_eq_getElem?_getD, List.getElem?_eq_getElem hk]; exact List.getElem_mem hk)
    simpa using this
  · obtain ⟨k, hk, rfl⟩ := List.getElem_of_mem hl
    have := h k hk
    rw [List.getD_eq_getElem?_getD, List.getElem?_eq_getElem hk] at this
    simpa using this
set_option maxRecDepth 100000 in
set_option maxHeartbeats 2000000 in
theorem great_any {F : Nat → Prop} {v : Value} {ls : List LnC} {w : World} (h : LinesAt F w v ls) : Calls Try.prog 8 #[v] w fun e w' => e = .returned (.bool (!smallB ls)) ∧ Below w.heap.size w w' := by
  obtain ⟨A, c, rfl, -⟩ := id h
  obtain ⟨n, hn⟩ : ∃ n, n = ls.length := ⟨_, rfl⟩
  rw [← hn] at h ⊢
  by_cases h60 : n > 60
  · have hs : smallB ls = false := by
      cases hx : smallB ls with
      | false => rfl
      | true => have := ((small_iff ls).1 hx).1; omega
    have g1 : decide ((n : Int) > 60) = true := by simp; omega
    rw [hs]
    clear h hn h60 hs
    go_enter Try.func8, Try.ntmps8
    go_wp2
    go_ret
    exact ⟨rfl, Below.refl _ _⟩
  · have g1 : decide ((n : Int) > 60) = false := by simp; omega
    have HL := Lib.hid h
    have HN := Lib.hid hn
    have h60' : n ≤ 60 := by omega
    clear h hn h60
    go_enter Try.func8, Try.ntmps8
    go_wp2
    go_loopw [3] (fun i wr => ∃ k : Nat, k ≤ n ∧ i = .int .i64 k ∧ Hid (∀ j, j < k → (ls.getD j noLn).cells.length ≤ 60) ∧ Hid (Below w.heap.size w wr)) (fun i _ => n - (RowKit.intOf i).toNat)
    case atStart => exact ⟨0, Nat.zero_le _, rfl, Lib.hid fun j hj => absurd hj (Nat.not_lt_zero _), Lib.hid (Below.refl _ _)⟩
    case round =>
      obtain ⟨k, hk, rfl, HE, HB⟩ := hrel
      rename_i wr
      by_cases hlt : k < n
      · have glt : decide ((k : Int) < (n : Int)) = true := by simp; omega
        obtain ⟨b, o, u, rfl, -, hb, q0, -, -, r0⟩ := HL.out.at_ hlt
        have i1 := idx_line b o n c k hlt
        have q0 := (HB.out.cell (p := ⟨b, o + k * 3, none⟩) hb).trans q0
        obtain ⟨A', c', rfl, -⟩ := r0.1
        by_cases hg : (ls.getD k noLn).cells.length > 60
        · have g2 : decide (((ls.getD k noLn).cells.length : Int) > 60) = true := decide_eq_true (by omega)
          have hs : smallB ls = false := by
            cases hx : smallB ls with
            | false => rfl
            | true => have := ((small_iff ls).1 hx).2 k (by rw [← HN.out]; exact hlt); omega
          have HS := Lib.hid hs
          generalize (ls.getD k noLn).cells.length = N at *
          clear r0 hb HE hs hg
          go_wp2
          go_ret
          exact ⟨by rw [HS.out]; rfl, HB.out⟩
        · have g2 : decide (((ls.getD k noLn).cells.length : Int) > 60) = false := decide_eq_false (by omega)
          have HE2 : Hid (∀ j, j < k + 1 → (ls.getD j noLn).cells.length ≤ 60) := Lib.hid fun j hj => by
            by_cases e : j = k
            · rw [e]; omega
            · exact HE.out j (by omega)
          generalize (ls.getD k noLn).cells.length = N at *
          clear r0 hb HE hg
          go_wp2
          go_roundw
          case rel => exact ⟨k + 1, by omega, by go_num, HE2, HB⟩
          case measure => simp [RowKit.intOf]; omega
      · have hkn : k = n := by omega
        have glt : decide ((k : Int) < (n : Int)) = false := by simp; omega
        have hs : smallB ls = true := (small_iff ls).2 ⟨by rw [← HN.out]; exact h60', fun j hj => HE.out j (by rw [hkn, HN.out]; exact hj)⟩
        have HS := Lib.hid hs
        clear HE hkn hs
        go_wp2
        go_ret
        exact ⟨by rw [HS.out]; rfl, HB.out⟩
end Go.Proofs.Ytifolcfnknlmdaa.Re
