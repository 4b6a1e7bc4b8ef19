/- Layer 8: the program's tellString. -/
import Derived.Test.YtkenaccnmmmooaaDoorEpD
set_option linter.unusedVariables false
namespace Go.Proofs.YtkenaccnmmmooaaDoor
open Go.RowKit Ev

theorem stirs_below {w W : World} {a : Nat} (hW : Below w.heap.size w W) (hl : a < w.heap.size) : Stirs a 0 1183 w W := (Stirs.refl _ _ _ _).andthen hW (Nat.le_refl _) hl
theorem words_at {w : World} {a : Nat} {q : Q} {L : List EV} (h : IsP w a q L) (hm : q.text.length ≤ 1024) : Hid (∀ W : World, Below w.heap.size w W → Calls Tryd.prog 53 #[.pointer (some ⟨a, 6, none⟩)] W fun e w' => e = .returned (.string (strK q.text)) ∧ Below w.heap.size w w' ∧ Hid (∀ A l, P7.TabT W A l → P7.TabT w' A l)) := Lib.hid fun W hW =>
  (words_any (h.below hW) hm).mono fun e w' ⟨e1, j, e2⟩ => ⟨e1, by rw [e2]; exact below_drew hW j, Lib.hid fun A l ht => by rw [e2]; exact ht.keep (P7.KeepT.of_below (below_drew (Below.refl _ _) j))⟩
theorem mids_at {w : World} {a : Nat} {q : Q} {L : List EV} (h : IsP w a q L) (hm : q.mids.length ≤ 2) : Hid (∀ W : World, Below w.heap.size w W → Calls Tryd.prog 55 #[.pointer (some ⟨a, 6, none⟩)] W fun e w' => e = .returned (.string (strK q.mids)) ∧ Below w.heap.size w w') := Lib.hid fun W hW =>
  (mids_any (h.below hW) hm).mono fun e w' ⟨e1, j, e2⟩ => ⟨e1, by rw [e2]; exact below_drew hW j⟩
theorem all_at {w : World} {a : Nat} {q : Q} {L : List EV} (h : IsP w a q L) : Hid (∀ W : World, Below w.heap.size w W → Calls Tryd.prog 56 #[.pointer (some ⟨a, 6, none⟩)] W fun e w' => ∃ A c, e = .returned (.slice A (P7.Par.parsV q.list).length c) ∧ Below w.heap.size w w' ∧ Hid (P7.TabT w' A (P7.Par.parsV q.list) ∧ Form A c (P7.Par.parsV q.list) ∧ W.heap.size ≤ w'.heap.size)) := Lib.hid fun W hW =>
  (P7.all_any a 6 _ W (h.below hW).par).mono fun _ _ ⟨e1, h1, h2⟩ => ⟨_, _, e1, hW.trans (h2.mono hW.size), Lib.hid ⟨h1, Or.inr ⟨_, rfl, rfl⟩, h2.size⟩⟩
theorem put_at {w : World} {a : Nat} {q : Q} {L : List EV} (h : IsP w a q L) (e0 : EV) : Hid (∀ (k r f : Int) (M X : ByteArray) (A : Option Addr) (n c : Nat) (W : World), evCells e0 A c = [.int .i64 k, .int .i32 r, .int .u8 f, .string M, .slice A n c, .string X] → Below w.heap.size w W → P7.TabT W A e0.params → Form A c e0.params → Calls Tryd.prog 52 #[.pointer (some ⟨a, 1181, none⟩), .agg #[.int .i64 k, .int .i32 r, .int .u8 f, .string M, .slice A n c, .string X]] W (PStep w a q (L ++ [e0]))) := Lib.hid fun k r f M X A n c W hv hW ht hf =>
  (put_any (h.below hW) e0 k r f M X A n c hv ht hf).mono fun _ _ hp => hp.from_ (stirs_below hW h.lt)

theorem pstr_osc {w : World} {a : Nat} {q : Q} {L : List EV} (h : IsP w a q L) (hs : q.st = 12) (ht : q.text.length ≤ 1024) : Calls Tryd.prog 32 #[.pointer (some ⟨a, 0, none⟩)] w (PStep w a q (L ++ [⟨5, 0, 0, [], [], q.text⟩])) := by
  have c5 : w.cell? ⟨a, 5, none⟩ = some (.int .i64 12) := by rw [h.st, hs]; rfl
  have c0 := h.siz
  have HW := words_at h ht
  have HC : Hid (∀ W : World, Below w.heap.size w W → Calls Tryd.prog 52 #[.pointer (some ⟨a, 1181, none⟩), .agg #[.int .i64 5, .int .i32 0, .int .u8 0, .string ⟨#[]⟩, .slice none 0 0, .string (strK q.text)]] W (PStep w a q (L ++ [⟨5, 0, 0, [], [], q.text⟩]))) := Lib.hid fun W hW => (put_at h ⟨5, 0, 0, [], [], q.text⟩).out 5 0 0 ⟨#[]⟩ (strK q.text) none 0 0 W rfl hW (no_tab _) no_form
  obtain ⟨n, hn⟩ : ∃ n, n = q.text.length := ⟨_, rfl⟩
  obtain ⟨X, hX⟩ : ∃ X, X = strK q.text := ⟨_, rfl⟩
  rw [← hn] at c0 ht
  rw [← hX] at HW HC
  have kb := bO X
  have d3 : decide ((n : Int) ≤ 1024) = true := by simp; omega
  have k0 : Below w.heap.size w w.drew := below_drew (Below.refl _ _) 1
  clear h hs hn hX ht
  go_enter Tryd.func32, Tryd.ntmps32
  go_wp2_with fail
  go_region_held3 (fun _ => True) (first | trivial | go_keep)
    (first | (go_at_call 53; (with_reducible refine (HW.out _ k0).mono ?_); rintro e w4 ⟨rfl, k1, kt⟩) | (go_at_call 52; (with_reducible refine (HC.out _ k1).mono ?_); rintro e w7 ⟨rfl, hp⟩; have HP := Lib.hid hp; clear hp))
  all_goals
    go_wp2
    go_end0
    exact ⟨rfl, HP.out⟩
/-- A device's string. -/
theorem pstr_dcs {w : World} {a : Nat} {q : Q} {L : List EV} (h : IsP w a q L) (hs : q.st = 10) (ht : q.text.length ≤ 256) (hm : q.mids.length ≤ 2) : Calls Tryd.prog 32 #[.pointer (some ⟨a, 0, none⟩)] w (PStep w a q (L ++ [⟨6, 0, q.final, q.mids, P7.Par.parsV q.list, q.text⟩])) := by
  have c5 : w.cell? ⟨a, 5, none⟩ = some (.int .i64 10) := by rw [h.st, hs]; rfl
  have c0 := h.siz
  have cf := h.fin
  have HM := Lib.hid (many_any h)
  have d1 : decide (2 < q.mids.length) = false := by simpa using hm
  rw [d1] at HM
  have HW := words_at h (by omega)
  have HMi := mids_at h hm
  have HAl := all_at h
  have HC := put_at h ⟨6, 0, q.final, q.mids, P7.Par.parsV q.list, q.text⟩
  have HV : Hid (∀ A c, evCells ⟨6, 0, q.final, q.mids, P7.Par.parsV q.list, q.text⟩ A c = [.int .i64 6, .int .i32 0, .int .u8 q.final, .string (strK q.mids), .slice A (P7.Par.parsV q.list).length c, .string (strK q.text)]) := Lib.hid fun A c => rfl
  have HK : Hid (∀ W : World, Below w.heap.size w W → W.cell? ⟨a, 155, none⟩ = some (.int .u8 q.final)) := Lib.hid fun W hW => (h.below hW).fin
  obtain ⟨n, hn⟩ : ∃ n, n = q.text.length := ⟨_, rfl⟩
  obtain ⟨X, hX⟩ : ∃ X, X = strK q.text := ⟨_, rfl⟩
  obtain ⟨M, hM⟩ : ∃ M, M = strK q.mids := ⟨_, rfl⟩
  obtain ⟨f, hf⟩ : ∃ f, f = q.final := ⟨_, rfl⟩
  have HF := Lib.hid hf
  obtain ⟨V, hV⟩ : ∃ V, V = P7.Par.parsV q.list := ⟨_, rfl⟩
  obtain ⟨l, hl⟩ : ∃ l, l = V.length := ⟨_, rfl⟩
  obtain ⟨e0, he⟩ : ∃ e0 : EV, e0 = ⟨6, 0, q.final, q.mids, P7.Par.parsV q.list, q.text⟩ := ⟨_, rfl⟩
  have hep : Hid (e0.params = V) := Lib.hid (by rw [he, hV])
  rw [← hn] at c0 ht
  rw [← he] at HC HV ⊢
  rw [← hX] at HW HV
  rw [← hM] at HMi HV
  rw [← hf] at HV cf HK
  rw [← hV, ← hl] at HAl HV
  have kb := bD (f : Int) M X
  have d3 : decide ((n : Int) ≤ 256) = true := by simp; omega
  have k0 : Below w.heap.size w w.drew := below_drew (Below.refl _ _) 1
  clear h hs hn hX ht hM hf hl d1 hm he
  go_enter Tryd.func32, Tryd.ntmps32
  go_wp2_with fail
  refine (show Calls _ _ _ _ _ from HM.out).mono ?_
  rintro e w1 ⟨rfl, rfl⟩
  clear HM
  go_wp2_with fail
  go_region_held3 (fun w' => w'.cell? ⟨a, 155, none⟩ = some (.int .u8 f)) (first | exact cf | exact HK.out _ k1 | exact HK.out _ k2 | exact HK.out _ k3 | exact k7 | go_keep)
    (first | (go_at_call 55; (with_reducible refine (HMi.out _ k0).mono ?_); rintro e w4 ⟨rfl, k1⟩) | (go_at_call 56; (with_reducible refine (HAl.out _ k1).mono ?_); rintro e w5 ⟨A, c, rfl, k2, ht⟩) | (go_at_call 53; (with_reducible refine (HW.out _ k2).mono ?_); rintro e w6 ⟨rfl, k3, kt⟩) | (go_at_call 52; (with_reducible refine (HC.out _ _ _ _ _ _ _ _ _ (HV.out _ _) k3 (by rw [hep.out]; exact kt.out _ _ ht.out.1) (by rw [hep.out]; exact ht.out.2.1)).mono ?_); rintro e w7 ⟨rfl, hp⟩; have HP := Lib.hid hp; have k7 := hp.1.fin; rw [← HF.out] at k7; clear hp))
  all_goals
    go_wp2
    go_end0
    exact ⟨rfl, HP.out⟩
theorem pstr_osc_long {w : World} {a : Nat} {q : Q} {L : List EV} (h : IsP w a q L) (hs : q.st = 12) (ht : 1024 < q.text.length) : Calls Tryd.prog 32 #[.pointer (some ⟨a, 0, none⟩)] w (PStep w a q L) := by
  have c5 : w.cell? ⟨a, 5, none⟩ = some (.int .i64 12) := by rw [h.st, hs]; rfl
  have c0 := h.siz
  have HP : Hid (PStep w a q L (.returned (.tuple #[])) w) := Lib.hid ⟨rfl, h, Stirs.refl _ _ _ _⟩
  obtain ⟨n, hn⟩ : ∃ n, n = q.text.length := ⟨_, rfl⟩
  rw [← hn] at c0 ht
  have d3 : decide ((n : Int) ≤ 1024) = false := by simp; omega
  clear h hs hn ht
  go_enter Tryd.func32, Tryd.ntmps32
  go_wp2
  go_end0
  exact HP.out
theorem pstr_dcs_long {w : World} {a : Nat} {q : Q} {L : List EV} (h : IsP w a q L) (hs : q.st = 10) (ht : 256 < q.text.length) : Calls Tryd.prog 32 #[.pointer (some ⟨a, 0, none⟩)] w (PStep w a q L) := by
  have c5 : w.cell? ⟨a, 5, none⟩ = some (.int .i64 10) := by rw [h.st, hs]; rfl
  have c0 := h.siz
  have HP : Hid (PStep w a q L (.returned (.tuple #[])) w) := Lib.hid ⟨rfl, h, Stirs.refl _ _ _ _⟩
  obtain ⟨n, hn⟩ : ∃ n, n = q.text.length := ⟨_, rfl⟩
  rw [← hn] at c0 ht
  have d3 : decide ((n : Int) ≤ 256) = false := by simp; omega
  clear h hs hn ht
  go_enter Tryd.func32, Tryd.ntmps32
  go_wp2
  go_end0
  exact HP.out
theorem pstr_dcs_many {w : World} {a : Nat} {q : Q} {L : List EV} (h : IsP w a q L) (hs : q.st = 10) (ht : q.text.length ≤ 256) (hm : 2 < q.mids.length) : Calls Tryd.prog 32 #[.pointer (some ⟨a, 0, none⟩)] w (PStep w a q L) := by
  have c5 : w.cell? ⟨a, 5, none⟩ = some (.int .i64 10) := by rw [h.st, hs]; rfl
  have c0 := h.siz
  have HP : Hid (PStep w a q L (.returned (.tuple #[])) w) := Lib.hid ⟨rfl, h, Stirs.refl _ _ _ _⟩
  have HM := Lib.hid (many_any h)
  have d1 : decide (2 < q.mids.length) = true := by simpa using hm
  rw [d1] at HM
  obtain ⟨n, hn⟩ : ∃ n, n = q.text.length := ⟨_, rfl⟩
  rw [← hn] at c0 ht
  have d3 : decide ((n : Int) ≤ 256) = true := by simp; omega
  clear h hs hn ht d1 hm
  go_enter Tryd.func32, Tryd.ntmps32
  go_wp2_with fail
  refine (show Calls _ _ _ _ _ from HM.out).mono ?_
  rintro e w1 ⟨rfl, rfl⟩
  clear HM
  go_wp2
  go_end0
  exact HP.out

/-- What a region with All and put in it needs: behind All the parser stands as it did. -/
theorem all_pars {w : World} {a : Nat} {q : Q} {L : List EV} (h : IsP w a q L) : Calls Tryd.prog 56 #[.pointer (some ⟨a, 6, none⟩)] w fun e w' => ∃ A c, e = .returned (.slice A (P7.Par.parsV q.list).length c) ∧ P7.TabT w' A (P7.Par.parsV q.list) ∧ Form A c (P7.Par.parsV q.list) ∧ IsP w' a q L ∧ Below w.heap.size w w' := by
  refine (P7.all_any a 6 _ w h.par).mono ?_
  rintro e w' ⟨rfl, h1, h2⟩
  exact ⟨_, _, rfl, h1, Or.inr ⟨_, rfl, rfl⟩, h.below h2, h2⟩
end Go.Proofs.YtkenaccnmmmooaaDoor
