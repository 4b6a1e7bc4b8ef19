/- Layer 8: the program's act: a control sequence; a character. -/
import Derived.Test.YtkenaccnmmmooaaDoorEpE
import Derived.Test.YtkenaccnmmmooaaDoorF5DcX
import Derived.LoopTactic
namespace Go.Proofs.YtkenaccnmmmooaaDoor
open Go.RowKit Ev

theorem act_6 {w : World} {a : Nat} {q : Q} {L : List EV} (h : IsP w a q L) (b : UInt8) (hm : q.mids.length ≤ 2) : Calls Tryd.prog 35 #[.pointer (some ⟨a, 0, none⟩), .int .i64 6, .int .u8 (b.toNat : Int)] w (PStep w a q (L ++ [⟨4, 0, b.toNat, q.mids, P7.Par.parsV q.list, []⟩])) := by
  have HM := Lib.hid (many_any h)
  have d1 : decide (2 < q.mids.length) = false := by simpa using hm
  rw [d1] at HM
  have HMi := mids_at h hm
  have HAl := all_at h
  have HC := put_at h ⟨4, 0, b.toNat, q.mids, P7.Par.parsV q.list, []⟩
  have HV : Hid (∀ A c, evCells ⟨4, 0, b.toNat, q.mids, P7.Par.parsV q.list, []⟩ A c = [.int .i64 4, .int .i32 0, .int .u8 b.toNat, .string (strK q.mids), .slice A (P7.Par.parsV q.list).length c, .string ⟨#[]⟩]) := Lib.hid fun A c => rfl
  obtain ⟨M, hM⟩ : ∃ M, M = strK q.mids := ⟨_, rfl⟩
  obtain ⟨x, hx⟩ : ∃ x, x = b.toNat := ⟨_, rfl⟩
  obtain ⟨V, hV⟩ : ∃ V, V = P7.Par.parsV q.list := ⟨_, rfl⟩
  obtain ⟨l, hl⟩ : ∃ l, l = V.length := ⟨_, rfl⟩
  obtain ⟨e0, he⟩ : ∃ e0 : EV, e0 = ⟨4, 0, b.toNat, q.mids, P7.Par.parsV q.list, []⟩ := ⟨_, rfl⟩
  have hep : Hid (e0.params = V) := Lib.hid (by rw [he, hV])
  rw [← he] at HC HV ⊢
  rw [← hM] at HMi HV
  rw [← hx] at HV ⊢
  rw [← hV, ← hl] at HAl HV
  have kb := bC (x : Int) M
  have k0 : Below w.heap.size w w.drew := below_drew (Below.refl _ _) 1
  clear h hM hx hV hl he d1 hm
  go_enter Tryd.func35, Tryd.ntmps35
  go_wp2_with fail
  refine (show Calls _ _ _ _ _ from HM.out).mono ?_
  rintro e w1 ⟨rfl, rfl⟩
  clear HM
  go_wp2_with fail
  go_region_held3 (fun _ => True) (first | trivial | go_keep)
    (first | (go_at_call 55; (with_reducible refine (HMi.out _ k0).mono ?_); rintro e w4 ⟨rfl, k1⟩) | (go_at_call 56; (with_reducible refine (HAl.out _ k1).mono ?_); rintro e w5 ⟨A, c, rfl, k2, ht⟩) | (go_at_call 52; (with_reducible refine (HC.out _ _ _ _ _ _ _ _ _ (HV.out _ _) k2 (by rw [hep.out]; exact ht.out.1) (by rw [hep.out]; exact ht.out.2.1)).mono ?_); rintro e w7 ⟨rfl, hp⟩; have HP := Lib.hid hp; clear hp))
  all_goals
    go_wp2
    go_end0
    exact ⟨rfl, HP.out⟩

theorem part_old {w : World} {a : Nat} {q : Q} {L : List EV} (h : IsP w a q L) (x : Obj) : IsP (w.alloc x) a q L := h.below ((Below.refl _ _).alloc (Nat.le_refl _) _)

set_option maxHeartbeats 1000000 in
theorem act_1 {w : World} {a : Nat} {q : Q} {L : List EV} (h : IsP w a q L) (hT : D5.Tabs w) (b : UInt8) : Calls Tryd.prog 35 #[.pointer (some ⟨a, 0, none⟩), .int .i64 1, .int .u8 (b.toNat : Int)] w (PStep w a { q with kept := (D5.Dec.comes q.kept b).2 } (L ++ (D5.Dec.comes q.kept b).1.map printE)) := by
  have hcnt := D5.Dec.comes_count q.kept b h.dec.ok
  obtain ⟨T, hTT⟩ : ∃ T, T = D5.Dec.comes q.kept b := ⟨_, rfl⟩
  rw [← hTT] at hcnt ⊢
  have HC : Hid (∀ W : World, Below w.heap.size w W → Calls Tryd.prog 58 #[.pointer (some ⟨a, 0, none⟩), .int .u8 (b.toNat : Int)] W (D5.BytePost W a 0 T)) := Lib.hid fun W hW => by
    rw [hTT]
    exact D5.byte_any a 0 q.kept b W (hT.below hW (Nat.le_refl _)) (h.below hW).dec
  have HH : Hid (∀ W : World, Below w.heap.size w W → IsP W a q L) := Lib.hid fun W hW => h.below hW
  obtain ⟨n, hn⟩ : ∃ n, n = T.1.length := ⟨_, rfl⟩
  have HN := Lib.hid hn
  have hn2 : n ≤ 2 := by omega
  have hla := h.lt
  clear h hT hTT hcnt hn
  go_enter Tryd.func35, Tryd.ntmps35
  go_wp2_with fail
  refine (show Calls _ _ _ _ _ from HC.out w (Below.refl _ _)).mono ?_
  rintro e w1 ⟨rfl, hd, hs⟩
  have H1 : Hid (IsP w1 a { q with kept := T.2 } L) := Lib.hid ((HH.out w (Below.refl _ _)).decoded hs hd)
  have S1 : Hid (Stirs a 0 1183 w w1) := Lib.hid (hs.wider (by omega) (by omega))
  obtain ⟨x, hx⟩ : ∃ x, x = T.1.getD 0 0 := ⟨_, rfl⟩
  obtain ⟨y, hy⟩ : ∃ y, y = T.1.getD 1 0 := ⟨_, rfl⟩
  have HX : Hid (∀ k, k < n → T.1.getD k 0 = if k = 0 then x else y) := Lib.hid fun k hk => by
    have : k = 0 ∨ k = 1 := by omega
    rcases this with rfl | rfl
    · rw [hx]; rfl
    · rw [hy]; rfl
  rw [← hx, ← hy, ← HN.out]
  have sl := D5.slice_two w1.heap.size n hn2
  clear hx hy hd hs HC HH
  go_wp2
  go_loopw [28] (fun i wr => ∃ k : Nat, k ≤ n ∧ i = .int .i64 k ∧ Hid (IsP wr a { q with kept := T.2 } (L ++ (T.1.take k).map printE)) ∧ Hid (Stirs a 0 1183 w wr) ∧ Hid (wr.heap[w1.heap.size]? = some (.cells #[.int .i32 x, .int .i32 y] 101 (0, 0)))) (fun i _ => n - (RowKit.intOf i).toNat)
  case atStart =>
    refine ⟨0, Nat.zero_le _, rfl, Lib.hid (by simpa using part_old H1.out _), Lib.hid (S1.out.alloc _ hla), Lib.hid ?_⟩
    exact Deep.blk_alloc_new w1 _
  case round =>
    obtain ⟨k, hk, rfl, HI, HS, HL⟩ := hrel
    by_cases hlt : k < n
    · have hlt' : k < T.1.length := by rw [← HN.out]; exact hlt
      have hcell : wr.cell? ⟨w1.heap.size, k, none⟩ = some (.int .i32 (T.1.getD k 0 : Nat)) := by
        rw [cell_at HL.out, HX.out k hlt]
        have : k = 0 ∨ k = 1 := by omega
        rcases this with rfl | rfl <;> rfl
      have HTk : Hid (T.1.take (k + 1) = T.1.take k ++ [T.1.getD k 0]) := Lib.hid (by
        rw [List.take_succ_eq_append_getElem hlt']
        simp [hlt'])
      have HP := Lib.hid (rune_any HI.out (T.1.getD k 0))
      have HNE : Hid (w1.heap.size ≠ a) := Lib.hid (by have := S1.out.size; omega)
      generalize T.1.getD k 0 = r at *
      go_wp2_with fail
      refine (show Calls _ _ _ _ _ from HP.out).mono ?_
      rintro e w3 ⟨rfl, hR, hst⟩
      have HR3 : Hid (IsP w3 a { q with kept := T.2 } (L ++ (T.1.take (k + 1)).map printE)) := Lib.hid (by
        rw [HTk.out, List.map_append, ← List.append_assoc]
        exact hR)
      have HS3 := Lib.hid (HS.out.trans hst)
      have HL3 : Hid (w3.heap[w1.heap.size]? = some (.cells #[.int .i32 x, .int .i32 y] 101 (0, 0))) := Lib.hid ((hst.block _ (Array.getElem?_eq_some_iff.1 HL.out).1 HNE.out).trans HL.out)
      clear hR hst HP HI HS HL hcell
      go_wp2
      go_roundw
      case rel => exact ⟨k + 1, by omega, by go_num, HR3, HS3, HL3⟩
      case measure => simp [RowKit.intOf]; omega
    · have hkn : k = n := by omega
      subst hkn
      have HF : Hid (IsP wr a { q with kept := T.2 } (L ++ T.1.map printE)) := Lib.hid (by
        have := HI.out
        rwa [HN.out, List.take_length] at this)
      clear HI
      go_wp2
      go_end0
      exact ⟨rfl, HF.out, HS.out⟩
end Go.Proofs.YtkenaccnmmmooaaDoor
