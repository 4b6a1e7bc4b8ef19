/- Layer 3: QuotaPlays' walk. -/
import Derived.Test.YthjechngpjkgnaaQuoX
import Derived.Deep.RegionHeld3
namespace Go.Proofs.Ythjechngpjkgnaa
open Go.RowKit Go.Maps Go.ChangeMaps

theorem duo_new {w0 w : World} {q m : Nat} {most : Int} (hq : w0.heap.size ≤ q ∧ w0.heap.size ≤ m) (h : QS w q m most (fun _ => 0) 0 (fun _ => False)) (hb : Below w0.heap.size w0 w) :
    DuoQ w0 (w.alloc (.cells #[.int .i64 most, .slice none 0 0] 43 (0, 0))) w0.heap.size q w.heap.size most (fun _ => 0) 0 [] := by
  have hb2 : Below w.heap.size w (w.alloc (.cells #[.int .i64 most, .slice none 0 0] 43 (0, 0))) := (Below.refl _ _).alloc (Nat.le_refl _) _
  refine ⟨⟨m, _, .slice none 0 0, h.below hb2, ⟨(MapKept.heap_alloc _ _).1, rfl, Or.inl ⟨rfl, rfl⟩⟩, hq.2, fun _ h => h.elim, fun _ h => by simp [Value.ownBlock] at h, fun hf => absurd (h.foot_lt hf) (by omega), fun _ h => by simp [Value.ownBlock] at h⟩, ⟨hq.1, hb.size⟩, hb.trans (hb2.mono hb.size), Nat.le_trans hb.size hb2.size⟩

theorem drewN_add (w : World) (n j : Nat) : (w.drewN n).drewN j = w.drewN (n + j) := by simp

/-- What holds at the head of the loop. -/
def PlaysRel (w0 : World) (len q r : Nat) (most : Int) (i : Value) (wr : World) : Prop :=
  ∃ (k : Nat) (T : Value → Int) (n : Nat) (l : List Tk), k ≤ len ∧ i = .int .i64 k ∧ l.length ≤ k ∧ DuoQ w0 wr w0.heap.size q r most T n l ∧ Sync most T n l

/-- The last test of a round: the four calls, in whatever world that has drawn since. -/
structure Tail (w : World) (q r : Nat) (key : ByteArray) (z : Int) (x : Int) : Prop where
  a : ∀ j, Calls Try.prog 18 #[.pointer (some ⟨q, 0, none⟩), .string key] (w.drewN j) fun e w'' => e = .returned (.int .i64 z) ∧ ∃ m, w'' = w.drewN m
  b : ∀ j, Calls Try.prog 19 #[.pointer (some ⟨r, 0, none⟩), .string key] (w.drewN j) fun e w'' => e = .returned (.int .i64 z) ∧ ∃ m, w'' = w.drewN m
  c : ∀ j, Calls Try.prog 20 #[.pointer (some ⟨q, 0, none⟩)] (w.drewN j) fun e w'' => e = .returned (.int .i64 x) ∧ ∃ m, w'' = w.drewN m
  d : ∀ j, Calls Try.prog 21 #[.pointer (some ⟨r, 0, none⟩)] (w.drewN j) fun e w'' => e = .returned (.int .i64 x) ∧ ∃ m, w'' = w.drewN m

theorem DuoQ.tail {w0 w : World} {B q r : Nat} {most : Int} {T : Value → Int} {n : Nat} {l : List Tk} (h : DuoQ w0 w B q r most T n l) (hs : Sync most T n l) (key : ByteArray) (hk : key.size ≤ maxLen) (hlen : l.length ≤ 300) : ∃ z x, Tail w q r key z x := by
  have hf := h.fits (.string key)
  rw [hs.left key] at hf
  refine ⟨most - tk key l, nk l, fun j => ?_, fun j => ?_, fun j => ?_, fun j => ?_⟩
  · refine (duo_left key (h.drewN j) hk (by rw [hs.left key])).mono ?_
    rintro e w' ⟨he, i, hw⟩
    exact ⟨he, j + i, by rw [hw, drewN_add]⟩
  · refine (duo_rleft key (h.drewN j) hs.good hf.2.1 rfl).mono ?_
    rintro e w' ⟨he, hw⟩
    exact ⟨he, j, hw.symm⟩
  · refine (duo_keys (h.drewN j) (by rw [hs.keys])).mono ?_
    rintro e w' ⟨he, hw⟩
    exact ⟨he, j, hw.symm⟩
  · refine (duo_rkeys (h.drewN j) hlen rfl).mono ?_
    rintro e w' ⟨he, i, hw⟩
    exact ⟨he, j + i, by rw [hw, drewN_add]⟩

set_option maxRecDepth 100000 in
set_option maxHeartbeats 4000000 in
theorem plays_walk (most : Int) (len cap : Nat) (A : Option Addr) (X : Nat → Act) (w : World) (hA : ActsIn w w.heap.size A len X) (hlen : len ≤ 9223372036854775807) :
    Calls Try.prog 4 #[.int .i64 most, .slice A len cap] w fun e w' => e = .returned (.bool true) ∧ Below w.heap.size w w' := by
  have hnot : ∀ (x : Bool) (w : World), (Op.unary .not (.bool x)).run Try.prog w = .ok (.bool (!x)) w := fun _ _ => rfl
  have HA := Lib.hid hA
  clear hA
  go_enter Try.func4, Try.ntmps4
  go_wp2_with fail
  refine (awake_any w).mono ?_
  rintro e w1 ⟨rfl, hb⟩
  have HB := Lib.hid hb
  clear hb
  go_wp2_with fail
  refine (great_any len cap w.heap.size A X w1 (HA.out.below HB.out) hlen).mono ?_
  rintro e w2 ⟨g, rfl, rfl, hg⟩
  cases g with
  | true =>
    clear hg
    go_wp2_with fail
    go_ret
    exact ⟨rfl, HB.out⟩
  | false =>
  have hl := hg rfl
  clear hg
  by_cases hm : most < 0 ∨ 1099511627776 < most
  · have HN := Lib.hid (new_none most w1 hm)
    rcases hm with hm | hm
    · go_wp2_with fail
      refine HN.out.mono ?_
      rintro e w2 ⟨rfl, rfl⟩
      go_wp2_with fail
      go_ret
      exact ⟨rfl, HB.out⟩
    · have hm0 : ¬ most < 0 := by omega
      go_wp2_with fail
      refine HN.out.mono ?_
      rintro e w2 ⟨rfl, rfl⟩
      go_wp2_with fail
      go_ret
      exact ⟨rfl, HB.out⟩
  have hm0 : ¬ most < 0 := by omega
  have hm1 : ¬ 1099511627776 < most := by omega
  clear hm
  go_wp2_with fail
  refine (new_some most _ (by omega)).mono ?_
  rintro e w2 ⟨q, m, rfl, hq, hm, hQ, hb⟩
  have HD := Lib.hid (duo_new (w0 := w) ⟨Nat.le_trans HB.out.size hq, Nat.le_trans HB.out.size hm⟩ hQ (HB.out.trans (hb.mono HB.out.size)))
  clear hq hm hQ hb
  go_wp2_with fail
  go_loopw [8] (fun i wr => PlaysRel w len q w2.heap.size most i wr) (fun i _ => len - (intOf i).toNat)
  case atStart => exact ⟨0, _, _, _, Nat.zero_le _, rfl, Nat.le_refl _, HD.out, Sync.nil most⟩
  case round =>
    clear HD
    generalize w2.heap.size = r at *
    obtain ⟨k, T, n, l, hk, rfl, hll, hD, hS⟩ := hrel
    have hacts := HA.out.below hD.old
    have HO := Lib.hid hD.old
    by_cases hlt : k < len
    · obtain ⟨b, o, rfl, hbl, hs, x0, x1, x2⟩ := hacts.at_ hlt
      generalize (X k).d = d at x0
      generalize (X k).n = y at x1
      generalize (X k).k = kk at x2 hs
      have HK : Hid (kk.size ≤ maxLen) := Lib.hid (by unfold maxLen; omega)
      clear hacts
      by_cases hd0 : d = 0
      · subst hd0
        have KS : Hid (∀ w', Below w.heap.size w w' → w'.cell? ⟨b, o + k * 3 + 1, none⟩ = some (.int .i64 y) ∧ w'.cell? ⟨b, o + k * 3 + 2, none⟩ = some (.string kk)) := Lib.hid (fun w' hb => ⟨(hb.cell (p := ⟨b, o + k * 3 + 1, none⟩) hbl).trans ((HO.out.cell (p := ⟨b, o + k * 3 + 1, none⟩) hbl).symm.trans x1), (hb.cell (p := ⟨b, o + k * 3 + 2, none⟩) hbl).trans ((HO.out.cell (p := ⟨b, o + k * 3 + 2, none⟩) hbl).symm.trans x2)⟩)
        cases hb : okB most (T (.string kk)) y with
        | false =>
          have HQ := Lib.hid (duo_take kk y hD.drew HK.out hb)
          have hf := hD.fits (.string kk)
          have HM : Hid (tk kk l ≤ most) := Lib.hid (by rw [hS.left kk] at hf; exact hf.2.1)
          have HOK : Hid (okB most (tk kk l) y = false) := Lib.hid (by rw [← hS.left kk]; exact hb)
          have HS := Lib.hid hS
          have hi0 : (0 : Int) ≤ (k : Int) := Int.natCast_nonneg _
          have hi1 : (k : Int) < (len : Int) := by omega
          clear hD hS hf hb
          go_wp2_with fail
          go_region_held3 (fun w' => w'.cell? ⟨b, o + k * 3 + 1, none⟩ = some (.int .i64 y) ∧ w'.cell? ⟨b, o + k * 3 + 2, none⟩ = some (.string kk))
            (first | go_keep | exact KS.out _ hD1.old | exact KS.out _ hD2.old)
            (first | (go_at_call 15; refine HQ.out.mono ?_; rintro e w4 ⟨rfl, T', n', hD1, hK⟩) | (go_at_call 16; refine (duo_rtake kk y hD1 HS.out.good HM.out (by omega) HOK.out).mono ?_; rintro e w5 ⟨rfl, hD2⟩))
          obtain ⟨z1, z2⟩ := KS.out _ hD2.old
          have hln := takeL_len most l kk y
          have HS2 := Lib.hid (HS.out.take hK)
          have HD := Lib.hid hD2
          generalize takeL most l kk y = l2 at hln HS2 HD
          obtain ⟨z, x, ht⟩ := HD.out.tail HS2.out kk HK.out (by omega)
          have HT := Lib.hid ht
          clear ht hD1 hD2 hK HQ HS HM HOK KS hi0 hi1 x0 x1 x2
          go_wp2_with fail
          go_quiet ((first | (go_at_call 18; with_reducible exact HT.out.a _) | (go_at_call 19; with_reducible exact HT.out.b _) | (go_at_call 20; with_reducible exact HT.out.c _) | (go_at_call 21; with_reducible exact HT.out.d _)))
          go_wp2_with fail
          go_roundw
          case rel => exact ⟨k + 1, _, _, _, by omega, by go_num, by omega, HD.out.drewN _, HS2.out⟩
          case measure => simp [intOf]; omega
        | true =>
          have HQ := Lib.hid (duo_take kk y hD.drew HK.out hb)
          have hf := hD.fits (.string kk)
          have HM : Hid (tk kk l ≤ most) := Lib.hid (by rw [hS.left kk] at hf; exact hf.2.1)
          have HOK : Hid (okB most (tk kk l) y = true) := Lib.hid (by rw [← hS.left kk]; exact hb)
          have HS := Lib.hid hS
          have hi0 : (0 : Int) ≤ (k : Int) := Int.natCast_nonneg _
          have hi1 : (k : Int) < (len : Int) := by omega
          clear hD hS hf hb
          go_wp2_with fail
          go_region_held3 (fun w' => w'.cell? ⟨b, o + k * 3 + 1, none⟩ = some (.int .i64 y) ∧ w'.cell? ⟨b, o + k * 3 + 2, none⟩ = some (.string kk))
            (first | go_keep | exact KS.out _ hD1.old | exact KS.out _ hD2.old)
            (first | (go_at_call 15; refine HQ.out.mono ?_; rintro e w4 ⟨rfl, T', n', hD1, hK⟩) | (go_at_call 16; refine (duo_rtake kk y hD1 HS.out.good HM.out (by omega) HOK.out).mono ?_; rintro e w5 ⟨rfl, hD2⟩))
          obtain ⟨z1, z2⟩ := KS.out _ hD2.old
          have hln := takeL_len most l kk y
          have HS2 := Lib.hid (HS.out.take hK)
          have HD := Lib.hid hD2
          generalize takeL most l kk y = l2 at hln HS2 HD
          obtain ⟨z, x, ht⟩ := HD.out.tail HS2.out kk HK.out (by omega)
          have HT := Lib.hid ht
          clear ht hD1 hD2 hK HQ HS HM HOK KS hi0 hi1 x0 x1 x2
          go_wp2_with fail
          go_quiet ((first | (go_at_call 18; with_reducible exact HT.out.a _) | (go_at_call 19; with_reducible exact HT.out.b _) | (go_at_call 20; with_reducible exact HT.out.c _) | (go_at_call 21; with_reducible exact HT.out.d _)))
          go_wp2_with fail
          go_roundw
          case rel => exact ⟨k + 1, _, _, _, by omega, by go_num, by omega, HD.out.drewN _, HS2.out⟩
          case measure => simp [intOf]; omega
      have e0 : (d == 0) = false := by simpa using hd0
      by_cases hd1 : d = 1
      · subst hd1
        have HT0 := Lib.hid (duo_tick hD)
        clear hD hS
        go_wp2_with fail
        refine HT0.out.mono ?_
        rintro e w4 ⟨rfl, hD⟩
        obtain ⟨⟨v, cv⟩, fv⟩ := hD.cells
        have hD2 := hD.clear
        have x0' := (hD.old.cell (p := ⟨b, o + k * 3, none⟩) hbl).trans ((HO.out.cell (p := ⟨b, o + k * 3, none⟩) hbl).symm.trans x0)
        have x2' := (hD2.old.cell (p := ⟨b, o + k * 3 + 2, none⟩) hbl).trans ((HO.out.cell (p := ⟨b, o + k * 3 + 2, none⟩) hbl).symm.trans x2)
        obtain ⟨z, x, ht⟩ := hD2.tail (Sync.nil most) kk HK.out (by simp)
        have HT := Lib.hid ht
        have HD := Lib.hid hD2
        clear ht hD hD2 HT0 x0 x1 x2
        go_wp2_with fail
        generalize w4.setCell ⟨r, 1, none⟩ (.slice none 0 0) = w5 at *
        go_quiet ((first | (go_at_call 18; with_reducible exact HT.out.a _) | (go_at_call 19; with_reducible exact HT.out.b _) | (go_at_call 20; with_reducible exact HT.out.c _) | (go_at_call 21; with_reducible exact HT.out.d _)))
        go_wp2_with fail
        go_roundw
        case rel => exact ⟨k + 1, _, _, _, by omega, by go_num, by simp, HD.out.drewN _, Sync.nil most⟩
        case measure => simp [intOf]; omega
      have e1 : (d == 1) = false := by simpa using hd1
      obtain ⟨z, x, ht⟩ := hD.tail hS kk HK.out (by omega)
      have HT := Lib.hid ht
      have HD := Lib.hid hD
      have HS := Lib.hid hS
      clear ht hD hS
      go_wp2_with fail
      go_quiet ((first | (go_at_call 18; with_reducible exact HT.out.a _) | (go_at_call 19; with_reducible exact HT.out.b _) | (go_at_call 20; with_reducible exact HT.out.c _) | (go_at_call 21; with_reducible exact HT.out.d _)))
      go_wp2_with fail
      go_roundw
      case rel => exact ⟨k + 1, _, _, _, by omega, by go_num, by omega, HD.out.drewN _, HS.out⟩
      case measure => simp [intOf]; omega
    · clear hacts hD hS
      go_wp2_with fail
      go_ret
      exact ⟨rfl, HO.out⟩

end Go.Proofs.Ythjechngpjkgnaa
