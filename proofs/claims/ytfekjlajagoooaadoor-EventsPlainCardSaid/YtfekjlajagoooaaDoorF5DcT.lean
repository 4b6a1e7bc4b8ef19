/- Layer 5: the document's Begins and Number. -/
import Derived.Test.YtfekjlajagoooaaDoorF5DcS
import Derived.Test.YtfekjlajagoooaaDoorF5DcE
namespace Go.Proofs.YtfekjlajagoooaaDoor.D5
open Go.RowKit Go.Lib Dec

theorem lenI_le (k : Nat) (hk : k < 9) : lenI k ≤ 4 ∧ 1 ≤ lenI k := by
  obtain rfl | rfl | rfl | rfl | rfl | rfl | rfl | rfl | rfl : k = 0 ∨ k = 1 ∨ k = 2 ∨ k = 3 ∨ k = 4 ∨ k = 5 ∨ k = 6 ∨ k = 7 ∨ k = 8 := by omega
  all_goals decide

theorem bt_get {l : List UInt8} {m : Nat} (h : m < l.length) : bt l m = l[m].toNat := by
  unfold bt
  simp [List.getD, h]

set_option maxRecDepth 100000 in
set_option maxHeartbeats 3200000 in
theorem begins_any (s : ByteArray) (l : List UInt8) (hl : l = s.data.toList) (_hs : s.size ≤ 1000000) (w : World) :
    Calls Tryd.prog 55 #[.string s] w fun e w' => e = .returned (.int .i64 (begV l : Nat)) ∧ Below w.heap.size w w' := by
  have hlen : l.length = s.size := by rw [hl]; rfl
  have HL := Lib.hid hl
  have HLen := Lib.hid hlen
  clear hl hlen
  go_enter Tryd.func55, Tryd.ntmps55
  go_wp2_with fail
  refine (shapes_any w).mono ?_
  rintro e w1 ⟨rfl, hsh, hb⟩
  have SH := Lib.hid hsh
  have HB := Lib.hid hb
  obtain ⟨b, hbw⟩ : ∃ b, b = w.heap.size := ⟨_, rfl⟩
  have HBW := Lib.hid hbw
  rw [← hbw] at SH ⊢
  clear hsh hb hbw
  go_wp2
  go_loopw [4] (fun i wr => ∃ k n : Nat, k ≤ 9 ∧ i = .int .i64 k ∧ wr = w1.drewN n ∧ Hid (begI l (9 - k) k = begV l)) (fun i _ => 9 - (RowKit.intOf i).toNat)
  case atStart => exact ⟨0, 0, by omega, rfl, rfl, Lib.hid rfl⟩
  case round =>
    obtain ⟨k, n, hk, rfl, rfl, hbeg⟩ := hrel
    by_cases hk9 : k < 9
    · have hle := lenI_le k hk9
      have cs : ∀ j : Nat, (w1.drewN j).cell? ⟨b + 10, k, none⟩ = some (.slice (some ⟨b + 1 + k, 0, none⟩) (lenI k) (lenI k)) := fun _ => SH.out.slot k hk9
      have hstep : Hid (begI l (9 - k) k = if fitsI k l then (if l.length = lenI k then 2 else 1) else begI l (9 - (k + 1)) (k + 1)) := Lib.hid (by
        rw [show 9 - k = (9 - (k + 1)) + 1 by omega]; rfl)
      obtain ⟨L, hL⟩ : ∃ L, L = lenI k := ⟨_, rfl⟩
      have HLK := Lib.hid hL
      rw [← hL] at cs hle
      clear hL
      go_wp2
      go_loopw [5, 6] (fun ok j wr2 => ∃ m n2 : Nat, m ≤ s.size ∧ j = .int .i64 m ∧ ok = .bool (okK k l m) ∧ wr2 = w1.drewN n2) (fun _ j _ => s.size - (RowKit.intOf j).toNat)
      case atStart => exact ⟨0, n, Nat.zero_le _, rfl, by simp [okK, HLen.out, HLK.out], rfl⟩
      case round =>
        obtain ⟨m, n2, hm, rfl, rfl, rfl⟩ := hrel
        have hml : m ≤ l.length := by rw [HLen.out]; exact hm
        cases hok : okK k l m
        · have HF : Hid (fitsI k l = false) := Lib.hid (okK_false hok l.length hml)
          have HN : Hid (begI l (9 - (k + 1)) (k + 1) = begV l) := Lib.hid (by rw [← hbeg.out, hstep.out, HF.out]; simp)
          clear hok
          by_cases hlt : m < s.size
          all_goals
            go_wp2
            go_roundw
            case rel => exact ⟨k + 1, _, by omega, by go_num, rfl, HN⟩
            case measure => simp [RowKit.intOf]; omega
        · have hLs : s.size ≤ L := by rw [HLK.out, ← HLen.out]; exact okK_len hok
          by_cases hlt : m < s.size
          · have hmL : m < lenI k := by have := HLK.out; omega
            have cl : ∀ j : Nat, (w1.drewN j).cell? ⟨b + 1 + k, m * 2, none⟩ = some (.int .u8 (loI k m : Nat)) := fun _ => (SH.out.cells k m hk9 hmL).1
            have ch : ∀ j : Nat, (w1.drewN j).cell? ⟨b + 1 + k, m * 2 + 1, none⟩ = some (.int .u8 (hiI k m : Nat)) := fun _ => (SH.out.cells k m hk9 hmL).2
            have hmL' : m < L := by omega
            have hy : bt l m = (s[m]).toNat := by
              have hlm : m < l.length := by rw [HLen.out]; exact hlt
              rw [bt_get hlm, show l[m] = s[m] by have := HL.out; subst this; rfl]
            have HS : Hid (okK k l (m + 1) = (decide (loI k m ≤ (s[m]).toNat) && decide ((s[m]).toNat ≤ hiI k m))) := Lib.hid (by simp only [okK, hok, Bool.true_and, hy])
            clear hok hy
            by_cases h1 : loI k m ≤ (s[m]).toNat
            · by_cases h2 : (s[m]).toNat ≤ hiI k m
              · have k1 : decide (loI k m ≤ (s[m]).toNat) = true := by simpa using h1
                have k2 : decide ((s[m]).toNat ≤ hiI k m) = true := by simpa using h2
                have HS2 : Hid (okK k l (m + 1) = true) := Lib.hid (by rw [HS.out, k1, k2]; rfl)
                go_wp2
                go_quiet (fail)
                go_wp2
                go_roundw
                case rel => exact ⟨m + 1, _, by omega, by go_num, by rw [HS2.out], rfl⟩
                case measure => simp [RowKit.intOf]; omega
              · have k1 : decide (loI k m ≤ (s[m]).toNat) = true := by simpa using h1
                have k2 : decide ((s[m]).toNat ≤ hiI k m) = false := by simpa using h2
                have HS2 : Hid (okK k l (m + 1) = false) := Lib.hid (by rw [HS.out, k1, k2]; rfl)
                go_wp2
                go_quiet (fail)
                go_wp2
                go_roundw
                case rel => exact ⟨m + 1, _, by omega, by go_num, by rw [HS2.out], rfl⟩
                case measure => simp [RowKit.intOf]; omega
            · have k1 : decide (loI k m ≤ (s[m]).toNat) = false := by simpa using h1
              have HS2 : Hid (okK k l (m + 1) = false) := Lib.hid (by rw [HS.out, k1]; rfl)
              go_wp2
              go_quiet (fail)
              go_wp2
              go_roundw
              case rel => exact ⟨m + 1, _, by omega, by go_num, by rw [HS2.out], rfl⟩
              case measure => simp [RowKit.intOf]; omega
          · have hme : m = l.length := by rw [HLen.out]; omega
            have HF : Hid (begV l = if s.size = L then 2 else 1) := Lib.hid (by
              rw [hme] at hok
              rw [← hbeg.out, hstep.out, show fitsI k l = true from hok, HLen.out, ← HLK.out]; simp)
            have HB2 : Hid (Below w.heap.size w (w1.drewN n2)) := Lib.hid (below_drew HB.out n2)
            clear hok hme hml
            by_cases he : s.size = L
            · have k1 : ((s.size : Int) == (L : Int)) = true := by simp; omega
              have HV : Hid (begV l = 2) := Lib.hid (by rw [HF.out, if_pos he])
              clear he
              go_wp2
              go_ret
              exact ⟨by rw [HV.out]; rfl, HB2.out⟩
            · have k1 : ((s.size : Int) == (L : Int)) = false := by simp; omega
              have HV : Hid (begV l = 1) := Lib.hid (by rw [HF.out, if_neg he])
              clear he
              go_wp2
              go_ret
              exact ⟨by rw [HV.out]; rfl, HB2.out⟩
    · have hke : k = 9 := by omega
      subst hke
      have HV : Hid (begV l = 0) := Lib.hid hbeg.out.symm
      go_wp2
      go_ret
      exact ⟨by rw [HV.out]; rfl, below_drew HB.out n⟩

theorem numK_next (l : List UInt8) {k : Nat} (h : 1 ≤ k) : numK l k = 64 * numK l (k - 1) + bt l k % 64 := by
  obtain ⟨k, rfl⟩ : ∃ q, k = q + 1 := ⟨k - 1, by omega⟩
  rfl

theorem number_1 (s : ByteArray) (l : List UInt8) (hl : l = s.data.toList) (hs : s.size = 1) (w : World) :
    Calls Tryd.prog 56 #[.string s] w fun e w' => e = .returned (.int .i32 (numV l : Nat)) ∧ w = w' := by
  have hlen : l.length = s.size := by rw [hl]; rfl
  have hlt0 : 0 < s.size := by omega
  have hb0 : bt l 0 = (s[0]).toNat := by
    rw [bt_get (by omega), show l[0] = s[0] by subst hl; rfl]
  have HH : Hid (headN l = (s[0]).toNat) := Lib.hid (by rw [← hb0]; simp [headN, hlen, hs])
  have k2 : ((s.size : Int) == 2) = false := by simp; omega
  have k3 : ((s.size : Int) == 3) = false := by simp; omega
  have k4 : ((s.size : Int) == 4) = false := by simp; omega
  have hs4 : s.size ≤ 4 := by omega
  have hz0 : (s[0]).toNat < 256 := (s[0]).toNat_lt
  have HL := Lib.hid hl
  have HLen := Lib.hid hlen
  have HSz := Lib.hid hs
  clear hl hlen hs hb0
  go_enter Tryd.func56, Tryd.ntmps56
  go_wp2
  go_loop [3, 4] (fun x i => ∃ k : Nat, 1 ≤ k ∧ k ≤ s.size ∧ i = .int .i64 k ∧ x = .int .i32 (numK l (k - 1) : Nat)) (fun _ i => s.size - (RowKit.intOf i).toNat)
  case atStart => exact ⟨1, by omega, by omega, rfl, by simp [numK, HH.out]⟩
  case round =>
    obtain ⟨k, hk1, hk, rfl, rfl⟩ := hrel
    by_cases hlt : k < s.size
    · have hy : bt l k = (s[k]).toNat := by
        have hlk : k < l.length := by rw [HLen.out]; exact hlt
        rw [bt_get hlk, show l[k] = s[k] by have := HL.out; subst this; rfl]
      have HK : Hid (numK l k = 64 * numK l (k - 1) + (s[k]).toNat % 64) := Lib.hid (by rw [numK_next l hk1, hy])
      have hx : numK l (k - 1) < 1048576 := by
        have h := numK_lt l (k - 1)
        have : 64 ^ (k - 1) ≤ 64 ^ 2 := Nat.pow_le_pow_right (by omega) (by omega)
        omega
      have hzk : (s[k]).toNat < 256 := (s[k]).toNat_lt
      obtain ⟨x, hxe⟩ : ∃ x, x = numK l (k - 1) := ⟨_, rfl⟩
      rw [← hxe] at hx HK ⊢
      clear hy hxe
      go_wp2
      go_round
      case rel => exact ⟨k + 1, by omega, by omega, by go_num, by rw [Nat.add_sub_cancel, HK.out]; simp⟩
      case measure => simp [RowKit.intOf]; omega
    · have HE : Hid (numV l = numK l (k - 1)) := Lib.hid (by
        have := HLen.out
        unfold numV
        rw [this, show s.size = k by omega])
      go_wp2
      go_ret
      exact ⟨ret_int (by rw [HE.out]), rfl⟩

theorem number_2 (s : ByteArray) (l : List UInt8) (hl : l = s.data.toList) (hs : s.size = 2) (w : World) :
    Calls Tryd.prog 56 #[.string s] w fun e w' => e = .returned (.int .i32 (numV l : Nat)) ∧ w = w' := by
  have hlen : l.length = s.size := by rw [hl]; rfl
  have hlt0 : 0 < s.size := by omega
  have hb0 : bt l 0 = (s[0]).toNat := by
    rw [bt_get (by omega), show l[0] = s[0] by subst hl; rfl]
  have HH : Hid (headN l = (s[0]).toNat % 32) := Lib.hid (by rw [← hb0]; simp [headN, hlen, hs])
  have k2 : ((s.size : Int) == 2) = true := by simp; omega
  have hs4 : s.size ≤ 4 := by omega
  have hz0 : (s[0]).toNat < 256 := (s[0]).toNat_lt
  have HL := Lib.hid hl
  have HLen := Lib.hid hlen
  have HSz := Lib.hid hs
  clear hl hlen hs hb0
  go_enter Tryd.func56, Tryd.ntmps56
  go_wp2
  go_loop [3, 4] (fun x i => ∃ k : Nat, 1 ≤ k ∧ k ≤ s.size ∧ i = .int .i64 k ∧ x = .int .i32 (numK l (k - 1) : Nat)) (fun _ i => s.size - (RowKit.intOf i).toNat)
  case atStart => exact ⟨1, by omega, by omega, rfl, by simp [numK, HH.out]⟩
  case round =>
    obtain ⟨k, hk1, hk, rfl, rfl⟩ := hrel
    by_cases hlt : k < s.size
    · have hy : bt l k = (s[k]).toNat := by
        have hlk : k < l.length := by rw [HLen.out]; exact hlt
        rw [bt_get hlk, show l[k] = s[k] by have := HL.out; subst this; rfl]
      have HK : Hid (numK l k = 64 * numK l (k - 1) + (s[k]).toNat % 64) := Lib.hid (by rw [numK_next l hk1, hy])
      have hx : numK l (k - 1) < 1048576 := by
        have h := numK_lt l (k - 1)
        have : 64 ^ (k - 1) ≤ 64 ^ 2 := Nat.pow_le_pow_right (by omega) (by omega)
        omega
      have hzk : (s[k]).toNat < 256 := (s[k]).toNat_lt
      obtain ⟨x, hxe⟩ : ∃ x, x = numK l (k - 1) := ⟨_, rfl⟩
      rw [← hxe] at hx HK ⊢
      clear hy hxe
      go_wp2
      go_round
      case rel => exact ⟨k + 1, by omega, by omega, by go_num, by rw [Nat.add_sub_cancel, HK.out]; simp⟩
      case measure => simp [RowKit.intOf]; omega
    · have HE : Hid (numV l = numK l (k - 1)) := Lib.hid (by
        have := HLen.out
        unfold numV
        rw [this, show s.size = k by omega])
      go_wp2
      go_ret
      exact ⟨ret_int (by rw [HE.out]), rfl⟩

theorem number_3 (s : ByteArray) (l : List UInt8) (hl : l = s.data.toList) (hs : s.size = 3) (w : World) :
    Calls Tryd.prog 56 #[.string s] w fun e w' => e = .returned (.int .i32 (numV l : Nat)) ∧ w = w' := by
  have hlen : l.length = s.size := by rw [hl]; rfl
  have hlt0 : 0 < s.size := by omega
  have hb0 : bt l 0 = (s[0]).toNat := by
    rw [bt_get (by omega), show l[0] = s[0] by subst hl; rfl]
  have HH : Hid (headN l = (s[0]).toNat % 16) := Lib.hid (by rw [← hb0]; simp [headN, hlen, hs])
  have k2 : ((s.size : Int) == 2) = false := by simp; omega
  have k3 : ((s.size : Int) == 3) = true := by simp; omega
  have hs4 : s.size ≤ 4 := by omega
  have hz0 : (s[0]).toNat < 256 := (s[0]).toNat_lt
  have HL := Lib.hid hl
  have HLen := Lib.hid hlen
  have HSz := Lib.hid hs
  clear hl hlen hs hb0
  go_enter Tryd.func56, Tryd.ntmps56
  go_wp2
  go_loop [3, 4] (fun x i => ∃ k : Nat, 1 ≤ k ∧ k ≤ s.size ∧ i = .int .i64 k ∧ x = .int .i32 (numK l (k - 1) : Nat)) (fun _ i => s.size - (RowKit.intOf i).toNat)
  case atStart => exact ⟨1, by omega, by omega, rfl, by simp [numK, HH.out]⟩
  case round =>
    obtain ⟨k, hk1, hk, rfl, rfl⟩ := hrel
    by_cases hlt : k < s.size
    · have hy : bt l k = (s[k]).toNat := by
        have hlk : k < l.length := by rw [HLen.out]; exact hlt
        rw [bt_get hlk, show l[k] = s[k] by have := HL.out; subst this; rfl]
      have HK : Hid (numK l k = 64 * numK l (k - 1) + (s[k]).toNat % 64) := Lib.hid (by rw [numK_next l hk1, hy])
      have hx : numK l (k - 1) < 1048576 := by
        have h := numK_lt l (k - 1)
        have : 64 ^ (k - 1) ≤ 64 ^ 2 := Nat.pow_le_pow_right (by omega) (by omega)
        omega
      have hzk : (s[k]).toNat < 256 := (s[k]).toNat_lt
      obtain ⟨x, hxe⟩ : ∃ x, x = numK l (k - 1) := ⟨_, rfl⟩
      rw [← hxe] at hx HK ⊢
      clear hy hxe
      go_wp2
      go_round
      case rel => exact ⟨k + 1, by omega, by omega, by go_num, by rw [Nat.add_sub_cancel, HK.out]; simp⟩
      case measure => simp [RowKit.intOf]; omega
    · have HE : Hid (numV l = numK l (k - 1)) := Lib.hid (by
        have := HLen.out
        unfold numV
        rw [this, show s.size = k by omega])
      go_wp2
      go_ret
      exact ⟨ret_int (by rw [HE.out]), rfl⟩

theorem number_4 (s : ByteArray) (l : List UInt8) (hl : l = s.data.toList) (hs : s.size = 4) (w : World) :
    Calls Tryd.prog 56 #[.string s] w fun e w' => e = .returned (.int .i32 (numV l : Nat)) ∧ w = w' := by
  have hlen : l.length = s.size := by rw [hl]; rfl
  have hlt0 : 0 < s.size := by omega
  have hb0 : bt l 0 = (s[0]).toNat := by
    rw [bt_get (by omega), show l[0] = s[0] by subst hl; rfl]
  have HH : Hid (headN l = (s[0]).toNat % 8) := Lib.hid (by rw [← hb0]; simp [headN, hlen, hs])
  have k2 : ((s.size : Int) == 2) = false := by simp; omega
  have k3 : ((s.size : Int) == 3) = false := by simp; omega
  have k4 : ((s.size : Int) == 4) = true := by simp; omega
  have hs4 : s.size ≤ 4 := by omega
  have hz0 : (s[0]).toNat < 256 := (s[0]).toNat_lt
  have HL := Lib.hid hl
  have HLen := Lib.hid hlen
  have HSz := Lib.hid hs
  clear hl hlen hs hb0
  go_enter Tryd.func56, Tryd.ntmps56
  go_wp2
  go_loop [3, 4] (fun x i => ∃ k : Nat, 1 ≤ k ∧ k ≤ s.size ∧ i = .int .i64 k ∧ x = .int .i32 (numK l (k - 1) : Nat)) (fun _ i => s.size - (RowKit.intOf i).toNat)
  case atStart => exact ⟨1, by omega, by omega, rfl, by simp [numK, HH.out]⟩
  case round =>
    obtain ⟨k, hk1, hk, rfl, rfl⟩ := hrel
    by_cases hlt : k < s.size
    · have hy : bt l k = (s[k]).toNat := by
        have hlk : k < l.length := by rw [HLen.out]; exact hlt
        rw [bt_get hlk, show l[k] = s[k] by have := HL.out; subst this; rfl]
      have HK : Hid (numK l k = 64 * numK l (k - 1) + (s[k]).toNat % 64) := Lib.hid (by rw [numK_next l hk1, hy])
      have hx : numK l (k - 1) < 1048576 := by
        have h := numK_lt l (k - 1)
        have : 64 ^ (k - 1) ≤ 64 ^ 2 := Nat.pow_le_pow_right (by omega) (by omega)
        omega
      have hzk : (s[k]).toNat < 256 := (s[k]).toNat_lt
      obtain ⟨x, hxe⟩ : ∃ x, x = numK l (k - 1) := ⟨_, rfl⟩
      rw [← hxe] at hx HK ⊢
      clear hy hxe
      go_wp2
      go_round
      case rel => exact ⟨k + 1, by omega, by omega, by go_num, by rw [Nat.add_sub_cancel, HK.out]; simp⟩
      case measure => simp [RowKit.intOf]; omega
    · have HE : Hid (numV l = numK l (k - 1)) := Lib.hid (by
        have := HLen.out
        unfold numV
        rw [this, show s.size = k by omega])
      go_wp2
      go_ret
      exact ⟨ret_int (by rw [HE.out]), rfl⟩

/-- The number of a character. -/
theorem number_any (s : ByteArray) (l : List UInt8) (hl : l = s.data.toList) (h1 : 1 ≤ s.size) (h4 : s.size ≤ 4) (w : World) :
    Calls Tryd.prog 56 #[.string s] w fun e w' => e = .returned (.int .i32 (numV l : Nat)) ∧ w = w' := by
  obtain h | h | h | h : s.size = 1 ∨ s.size = 2 ∨ s.size = 3 ∨ s.size = 4 := by omega
  · exact number_1 s l hl h w
  · exact number_2 s l hl h w
  · exact number_3 s l hl h w
  · exact number_4 s l hl h w

end Go.Proofs.YtfekjlajagoooaaDoor.D5
