/- Layer 4: the document's Parse. -/
import Derived.Test.YtbknfbobidgkkaaDoorIdS
namespace Go.Proofs.YtbknfbobidgkkaaDoor
open Go.RowKit Ids

def RefPost (l : List UInt8) (w : World) (e : Ending) (w' : World) : Prop :=
  w = w' ∧ ((∃ a b c : Nat, refL l = some (a, b, c) ∧ e = .returned (.tuple #[.int .i64 a, .int .i64 b, .int .i64 c, .bool true])) ∨ (refL l = none ∧ e = .returned (.tuple #[.int .i64 0, .int .i64 0, .int .i64 0, .bool false])))

theorem dot_none {l : List UInt8} (h : numL l = none) : numDot l = none := by simp [numDot, h]
theorem dot_end (s : ByteArray) {l : List UInt8} {n k : Nat} (h : numL l = some (n, s.data.toList.drop k)) (hk : ¬ k < s.size) : numDot l = none := by
  rw [List.drop_eq_nil_of_le (by simp; omega)] at h
  simp [numDot, h]
theorem dot_not (s : ByteArray) {l : List UInt8} {n k : Nat} (h : numL l = some (n, s.data.toList.drop k)) (hk : k < s.size) (hc : s[k] ≠ 46) : numDot l = none := by
  rw [drop_at s k hk] at h
  unfold numDot
  rw [h]
  split
  · rename_i h'
    injection h' with h'
    injection h' with _ h'
    injection h' with h' _
    exact absurd h' hc
  · rfl
theorem dot_yes (s : ByteArray) {l : List UInt8} {n k : Nat} (h : numL l = some (n, s.data.toList.drop k)) (hk : k < s.size) (hc : s[k] = 46) : numDot l = some (n, s.data.toList.drop (k + 1)) := by
  rw [drop_at s k hk, hc] at h
  simp [numDot, h]

theorem ref_p (s : ByteArray) (hs : 0 < s.size) (h : s[0] = 112) : s.data.toList = 112 :: s.data.toList.drop 1 := by
  have := drop_at s 0 hs
  rw [h, List.drop_zero] at this
  exact this
theorem ref_no0 (s : ByteArray) (hs : s.size = 0) : refL s.data.toList = none := by
  have : s.data.toList = [] := List.eq_nil_of_length_eq_zero (by simpa using hs)
  rw [this]; rfl
theorem ref_no00 (s : ByteArray) (hs : 0 < s.size) (h : s[0] ≠ 112) : refL s.data.toList = none := by
  have := drop_at s 0 hs
  rw [List.drop_zero] at this
  rw [this]
  unfold refL
  split
  · rename_i h'
    injection h' with h' _
    exact absurd h' h
  · rfl
section
variable {l l1 l2 l3 : List UInt8} {a b c : Nat}
theorem ref_no1 (h : l = 112 :: l1) (h1 : numDot l1 = none) : refL l = none := by rw [h]; simp [refL, h1]
theorem ref_no2 (h : l = 112 :: l1) (h1 : numDot l1 = some (a, l2)) (h2 : numDot l2 = none) : refL l = none := by rw [h]; simp [refL, h1, h2]
theorem ref_no3 (h : l = 112 :: l1) (h1 : numDot l1 = some (a, l2)) (h2 : numDot l2 = some (b, l3)) (h3 : numL l3 = none) : refL l = none := by rw [h]; simp [refL, h1, h2, h3]
theorem ref_no4 (s : ByteArray) {k : Nat} (h : l = 112 :: l1) (h1 : numDot l1 = some (a, l2)) (h2 : numDot l2 = some (b, l3)) (h3 : numL l3 = some (c, s.data.toList.drop k)) (hk : k < s.size) : refL l = none := by
  rw [drop_at s k hk] at h3
  rw [h]; simp [refL, h1, h2, h3]
theorem ref_yes (s : ByteArray) {k : Nat} (h : l = 112 :: l1) (h1 : numDot l1 = some (a, l2)) (h2 : numDot l2 = some (b, l3)) (h3 : numL l3 = some (c, s.data.toList.drop k)) (hk : k = s.size) : refL l = some (a, b, c) := by
  rw [List.drop_eq_nil_of_le (by simp; omega)] at h3
  rw [h]; simp [refL, h1, h2, h3]
end

theorem beqT {a b : Int} (h : a = b) : (a == b) = true := by simpa using h
theorem beqF {a b : Int} (h : a ≠ b) : (a == b) = false := by simpa using h
theorem bneT {a b : Int} (h : a ≠ b) : (a != b) = true := by simpa using h
theorem bneF {a b : Int} (h : a = b) : (a != b) = false := by simpa using h
theorem byte_ne {c : UInt8} {n : Nat} (h : c ≠ UInt8.ofNat n) (hn : n < 256) : (c.toNat : Int) ≠ n := by
  intro e
  apply h
  apply UInt8.toNat_inj.1
  have : (UInt8.ofNat n).toNat = n := by simp; omega
  omega

set_option maxRecDepth 100000 in
set_option maxHeartbeats 4000000 in
theorem refParse_any (s : ByteArray) (w : World) (hs : s.size ≤ 100000) :
    Calls Tryd.prog 13 #[.string s] w (RefPost s.data.toList w) := by
  have NA := Lib.hid (fun f hf => number_any s f w hs hf)
  by_cases h0 : s.size = 0
  · have HR := Lib.hid (ref_no0 s h0)
    have e0 : ((s.size : Int) == 0) = true := beqT (by omega)
    clear NA h0
    go_enter Tryd.func13, Tryd.ntmps13
    go_wp2
    exact bodyPost_ret (v := .tuple #[.int .i64 0, .int .i64 0, .int .i64 0, .bool false]) (by simp [results, Tryd.results13, go_sem]) rfl ⟨rfl, Or.inr ⟨HR.out, rfl⟩⟩
  have hp : 0 < s.size := by omega
  have e0 : ((s.size : Int) == 0) = false := beqF (by omega)
  by_cases h1 : s[0] = 112
  case neg =>
    have HR := Lib.hid (ref_no00 s hp h1)
    have e1 : ((s[0].toNat : Int) == 112) = false := beqF (byte_ne (n := 112) h1 (by omega))
    have e2 : ((s[0].toNat : Int) != 112) = true := bneT (byte_ne (n := 112) h1 (by omega))
    clear NA h0 h1
    go_enter Tryd.func13, Tryd.ntmps13
    go_wp2
    exact bodyPost_ret (v := .tuple #[.int .i64 0, .int .i64 0, .int .i64 0, .bool false]) (by simp [results, Tryd.results13, go_sem]) rfl ⟨rfl, Or.inr ⟨HR.out, rfl⟩⟩
  have HP := Lib.hid (ref_p s hp h1)
  have e2 : ((s[0].toNat : Int) != 112) = false := by rw [h1]; rfl
  clear h0 h1
  go_enter Tryd.func13, Tryd.ntmps13
  go_wp2_with fail
  refine (NA.out 1 (by omega)).mono ?_
  rintro e w' ⟨rfl, ⟨x1, k1, hn, hk, hk', rfl⟩ | ⟨hn, x, rfl⟩⟩
  case inr =>
    have HR := Lib.hid (ref_no1 HP.out (dot_none hn))
    clear hn NA
    go_wp2
    exact bodyPost_ret (v := .tuple #[.int .i64 0, .int .i64 0, .int .i64 0, .bool false]) (by simp [results, Tryd.results13, go_sem]) rfl ⟨rfl, Or.inr ⟨HR.out, rfl⟩⟩
  have k1l : k1 ≤ s.size := by simpa using hk'
  clear hk'
  by_cases q1 : k1 < s.size
  case neg =>
    have HR := Lib.hid (ref_no1 HP.out (dot_end s hn q1))
    have g1 : ¬ (k1 : Int) < s.size := by omega
    have g2 : decide ((k1 : Int) < s.size) = false := by simp; omega
    have g3 : decide ((s.size : Int) ≤ k1) = true := by simp; omega
    have g4 : (0 : Int) ≤ k1 := by omega
    clear hn NA q1
    go_wp2
    exact bodyPost_ret (v := .tuple #[.int .i64 0, .int .i64 0, .int .i64 0, .bool false]) (by simp [results, Tryd.results13, go_sem]) rfl ⟨rfl, Or.inr ⟨HR.out, rfl⟩⟩
  by_cases c1 : s[k1] = 46
  case neg =>
    have HR := Lib.hid (ref_no1 HP.out (dot_not s hn q1 c1))
    have g1 : ((s[k1].toNat : Int) != 46) = true := bneT (byte_ne (n := 46) c1 (by omega))
    have g3 : decide ((s.size : Int) ≤ k1) = false := by simp; omega
    clear hn NA c1
    go_wp2
    exact bodyPost_ret (v := .tuple #[.int .i64 0, .int .i64 0, .int .i64 0, .bool false]) (by simp [results, Tryd.results13, go_sem]) rfl ⟨rfl, Or.inr ⟨HR.out, rfl⟩⟩
  have D1 := Lib.hid (dot_yes s hn q1 c1)
  have g1 : ((s[k1].toNat : Int) != 46) = false := by rw [c1]; rfl
  have t1 : decide ((s.size : Int) ≤ k1) = false := by simp; omega
  clear hn c1
  go_wp2_with fail
  refine (NA.out (k1 + 1) (by omega)).mono ?_
  rintro e w' ⟨rfl, ⟨x2, k2, hn, hk, hk', rfl⟩ | ⟨hn, x, rfl⟩⟩
  case inr =>
    have HR := Lib.hid (ref_no2 HP.out D1.out (dot_none hn))
    clear hn NA
    go_wp2
    exact bodyPost_ret (v := .tuple #[.int .i64 0, .int .i64 0, .int .i64 0, .bool false]) (by simp [results, Tryd.results13, go_sem]) rfl ⟨rfl, Or.inr ⟨HR.out, rfl⟩⟩
  have k2l : k2 ≤ s.size := by simpa using hk'
  clear hk'
  by_cases q2 : k2 < s.size
  case neg =>
    have HR := Lib.hid (ref_no2 HP.out D1.out (dot_end s hn q2))
    have g1 : ¬ (k2 : Int) < s.size := by omega
    have g2 : decide ((k2 : Int) < s.size) = false := by simp; omega
    have g3 : decide ((s.size : Int) ≤ k2) = true := by simp; omega
    have g4 : (0 : Int) ≤ k2 := by omega
    clear hn NA q2
    go_wp2
    exact bodyPost_ret (v := .tuple #[.int .i64 0, .int .i64 0, .int .i64 0, .bool false]) (by simp [results, Tryd.results13, go_sem]) rfl ⟨rfl, Or.inr ⟨HR.out, rfl⟩⟩
  by_cases c2 : s[k2] = 46
  case neg =>
    have HR := Lib.hid (ref_no2 HP.out D1.out (dot_not s hn q2 c2))
    have g1 : ((s[k2].toNat : Int) != 46) = true := bneT (byte_ne (n := 46) c2 (by omega))
    have g3 : decide ((s.size : Int) ≤ k2) = false := by simp; omega
    clear hn NA c2
    go_wp2
    exact bodyPost_ret (v := .tuple #[.int .i64 0, .int .i64 0, .int .i64 0, .bool false]) (by simp [results, Tryd.results13, go_sem]) rfl ⟨rfl, Or.inr ⟨HR.out, rfl⟩⟩
  have D2 := Lib.hid (dot_yes s hn q2 c2)
  have g2 : ((s[k2].toNat : Int) != 46) = false := by rw [c2]; rfl
  have t2 : decide ((s.size : Int) ≤ k2) = false := by simp; omega
  clear hn c2
  go_wp2_with fail
  refine (NA.out (k2 + 1) (by omega)).mono ?_
  rintro e w' ⟨rfl, ⟨x3, k3, hn, hk, hk', rfl⟩ | ⟨hn, x, rfl⟩⟩
  case inr =>
    have HR := Lib.hid (ref_no3 HP.out D1.out D2.out hn)
    clear hn NA
    go_wp2
    exact bodyPost_ret (v := .tuple #[.int .i64 0, .int .i64 0, .int .i64 0, .bool false]) (by simp [results, Tryd.results13, go_sem]) rfl ⟨rfl, Or.inr ⟨HR.out, rfl⟩⟩
  have k3l : k3 ≤ s.size := by simpa using hk'
  clear hk'
  by_cases q3 : k3 < s.size
  case pos =>
    have HR := Lib.hid (ref_no4 s HP.out D1.out D2.out hn q3)
    have g1 : ((k3 : Int) != s.size) = true := bneT (by omega)
    clear hn NA
    go_wp2
    exact bodyPost_ret (v := .tuple #[.int .i64 0, .int .i64 0, .int .i64 0, .bool false]) (by simp [results, Tryd.results13, go_sem]) rfl ⟨rfl, Or.inr ⟨HR.out, rfl⟩⟩
  have HR := Lib.hid (ref_yes s HP.out D1.out D2.out hn (by omega))
  have g1' : ((k3 : Int) != s.size) = false := bneF (by omega)
  clear hn NA
  go_wp2
  exact bodyPost_ret (v := .tuple #[.int .i64 x1, .int .i64 x2, .int .i64 x3, .bool true]) (by simp [results, Tryd.results13, go_sem]) rfl ⟨rfl, Or.inl ⟨_, _, _, HR.out, rfl⟩⟩

end Go.Proofs.YtbknfbobidgkkaaDoor
