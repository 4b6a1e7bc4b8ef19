/- Layer 8: the program's act. -/
import Derived.Test.YtkenaccnmmmooaaDoorEpF
import Derived.LoopTactic
namespace Go.Proofs.YtkenaccnmmmooaaDoor
open Go.RowKit Ev

theorem act_0 {w : World} {a : Nat} {q : Q} {L : List EV} (h : IsP w a q L) (b : UInt8) : Calls Tryd.prog 35 #[.pointer (some ⟨a, 0, none⟩), .int .i64 0, .int .u8 (b.toNat : Int)] w (PStep w a q L) := by
  have HP : Hid (PStep w a q L (.returned (.tuple #[])) w) := Lib.hid ⟨rfl, h, Stirs.refl _ _ _ _⟩
  clear h
  go_enter Tryd.func35, Tryd.ntmps35
  go_wp2
  go_end0
  exact HP.out
theorem act_2 {w : World} {a : Nat} {q : Q} {L : List EV} (h : IsP w a q L) (b : UInt8) : Calls Tryd.prog 35 #[.pointer (some ⟨a, 0, none⟩), .int .i64 2, .int .u8 (b.toNat : Int)] w (PStep w a q (L ++ [⟨2, 0, b.toNat, [], [], []⟩])) := by
  have kb := bX (b.toNat : Int)
  have HC := Lib.hid (put_any h ⟨2, 0, b.toNat, [], [], []⟩ 2 0 b.toNat ⟨#[]⟩ ⟨#[]⟩ none 0 0 rfl (no_tab w) no_form)
  clear h
  go_enter Tryd.func35, Tryd.ntmps35
  go_wp2_with fail
  refine (show Calls _ _ _ _ _ from HC.out).mono ?_
  rintro e w2 hp
  have HP := Lib.hid hp
  obtain ⟨rfl, _, _⟩ := hp
  clear HC
  go_wp2
  go_end0
  exact HP.out
theorem act_3 {w : World} {a : Nat} {q : Q} {L : List EV} (h : IsP w a q L) (b : UInt8) (hs : q.mids.length ≤ 1000000) : Calls Tryd.prog 35 #[.pointer (some ⟨a, 0, none⟩), .int .i64 3, .int .u8 (b.toNat : Int)] w (PStep w a { q with mids := q.mids ++ [b] } L) := by
  have HC := Lib.hid (collect_any h b hs)
  clear h hs
  go_enter Tryd.func35, Tryd.ntmps35
  go_wp2_with fail
  refine (show Calls _ _ _ _ _ from HC.out).mono ?_
  rintro e w2 hp
  have HP := Lib.hid hp
  obtain ⟨rfl, _, _⟩ := hp
  clear HC
  go_wp2
  go_end0
  exact HP.out
theorem act_4 {w : World} {a : Nat} {q : Q} {L : List EV} (h : IsP w a q L) (b : UInt8) : Calls Tryd.prog 35 #[.pointer (some ⟨a, 0, none⟩), .int .i64 4, .int .u8 (b.toNat : Int)] w (PStep w a { q with list := q.list ++ [b] } L) := by
  have HC := Lib.hid (P7.byte_any a 6 _ b.toNat w h.par)
  have H := Lib.hid h
  clear h
  go_enter Tryd.func35, Tryd.ntmps35
  go_wp2_with fail
  refine (show Calls _ _ _ _ _ from HC.out).mono ?_
  rintro e w2 ⟨rfl, h1, h2⟩
  have HP : Hid (PStep w a { q with list := q.list ++ [b] } L (.returned (.tuple #[])) w2) := Lib.hid ⟨rfl, H.out.pars h2 (by rw [P7.Par.runP_append]; exact h1), h2.wider (by omega) (by omega)⟩
  clear HC h1 h2 H
  go_wp2
  go_end0
  exact HP.out
theorem act_5 {w : World} {a : Nat} {q : Q} {L : List EV} (h : IsP w a q L) (b : UInt8) : Calls Tryd.prog 35 #[.pointer (some ⟨a, 0, none⟩), .int .i64 5, .int .u8 (b.toNat : Int)] w (PStep w a q (L ++ (doE 5 q b).1)) := by
  have HC := Lib.hid (esc_any h b)
  clear h
  go_enter Tryd.func35, Tryd.ntmps35
  go_wp2_with fail
  refine (show Calls _ _ _ _ _ from HC.out).mono ?_
  rintro e w2 hp
  have HP := Lib.hid hp
  obtain ⟨rfl, _, _⟩ := hp
  clear HC
  go_wp2
  go_end0
  exact HP.out
theorem act_7 {w : World} {a : Nat} {q : Q} {L : List EV} (h : IsP w a q L) (b : UInt8) : Calls Tryd.prog 35 #[.pointer (some ⟨a, 0, none⟩), .int .i64 7, .int .u8 (b.toNat : Int)] w (PStep w a { q with final := b.toNat } L) := by
  have HP : Hid (PStep w a { q with final := b.toNat } L (.returned (.tuple #[])) (w.setCell ⟨a, 155, none⟩ (.int .u8 b.toNat))) := Lib.hid ⟨rfl, h.setFin _, (Stirs.refl a 0 1183 w).set _ _ (by omega)⟩
  obtain ⟨u1, c1⟩ := h.some_cell (i := 155) (by omega)
  have f1 := h.free 155
  clear h
  go_enter Tryd.func35, Tryd.ntmps35
  go_wp2
  go_end0
  exact HP.out
theorem act_8 {w : World} {a : Nat} {q : Q} {L : List EV} (h : IsP w a q L) (b : UInt8) (hs : q.text.length ≤ 1000000) : Calls Tryd.prog 35 #[.pointer (some ⟨a, 0, none⟩), .int .i64 8, .int .u8 (b.toNat : Int)] w (PStep w a { q with text := q.text ++ [b] } L) := by
  have HC := Lib.hid (text_any h b hs)
  clear h hs
  go_enter Tryd.func35, Tryd.ntmps35
  go_wp2_with fail
  refine (show Calls _ _ _ _ _ from HC.out).mono ?_
  rintro e w2 hp
  have HP := Lib.hid hp
  obtain ⟨rfl, _, _⟩ := hp
  clear HC
  go_wp2
  go_end0
  exact HP.out
/-- Csi, of too many bytes. -/
theorem act_6no {w : World} {a : Nat} {q : Q} {L : List EV} (h : IsP w a q L) (b : UInt8) (hm : 2 < q.mids.length) : Calls Tryd.prog 35 #[.pointer (some ⟨a, 0, none⟩), .int .i64 6, .int .u8 (b.toNat : Int)] w (PStep w a q L) := by
  have HM := Lib.hid (many_any h)
  have d1 : decide (2 < q.mids.length) = true := by simpa using hm
  rw [d1] at HM
  have HP : Hid (PStep w a q L (.returned (.tuple #[])) w) := Lib.hid ⟨rfl, h, Stirs.refl _ _ _ _⟩
  clear h hm d1
  go_enter Tryd.func35, Tryd.ntmps35
  go_wp2_with fail
  refine (show Calls _ _ _ _ _ from HM.out).mono ?_
  rintro e w1 ⟨rfl, rfl⟩
  clear HM
  go_wp2
  go_end0
  exact HP.out
end Go.Proofs.YtkenaccnmmmooaaDoor
