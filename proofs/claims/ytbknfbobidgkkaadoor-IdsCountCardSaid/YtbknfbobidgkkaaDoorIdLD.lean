/- Layer 1: ordered: an order laid down in memory. -/
import Derived.Test.YtbknfbobidgkkaaDoorIdLB
import Derived.RegionTactic
import Derived.Deep.DeepCutAuto
namespace Go.Proofs.YtbknfbobidgkkaaDoor
open Go.RowKit Lat

theorem info_u64 : (Tryd.prog.info? 86).map (fun i => (i.zero, i.size, i.bytes)) = some (some (.int .u64 0), 1, 8) := by kernel_rfl

/-- A lattice's struct while its sets are being filled. -/
structure Build (w wr : World) (lb ub db n : Nat) (Tu Td : Nat → Nat → Bool) : Prop where
  blk : wr.heap[lb]? = some (.cells #[.slice (some ⟨ub, 0, none⟩) n n, .slice (some ⟨db, 0, none⟩) n n, .int .u32 0, .int .i32 0, .int .u32 0, .slice none 0 0, .slice none 0 0] 85 (0, 0))
  up : Side wr ub n Tu
  dn : Side wr db n Td
  ne : ub ≠ db
  nu : w.heap.size ≤ ub
  nd : w.heap.size ≤ db
  nl : w.heap.size ≤ lb
  old : Below w.heap.size w wr

/-- One bit more in one word. -/
theorem put_bit {wr : World} {b n : Nat} {Tu : Nat → Nat → Bool} {U : Nat → Nat} (hr : wr.rowIs b 86 n (fun i => .int .u64 (U i))) (hU : ∀ i, i < n → BitsOf n (U i) (Tu i)) {k j : Nat} (hk : k < n) (hj : j < n) (hn : n ≤ 64) :
    Side (wr.setCell ⟨b, k, none⟩ (.int .u64 (bits .or .u64 (U k : Int) (IntKind.u64.wrap (2 ^ j))))) b n (fun x y => Tu x y || (x == k && y == j)) := by
  have hb := (hU k hk).or_one hj hn
  have hp : 2 ^ j < 2 ^ 64 := Nat.pow_lt_pow_right (by omega) (by omega)
  refine ⟨fun i => if i = k then U k ||| 2 ^ j else U i, (hr.set k _).congr fun i hi => ?_, fun i hi => ?_⟩
  · by_cases e : i = k
    · subst e
      simp only [if_true]
      rw [wrap_pow j (by omega), u64_or_nat (U i) (2 ^ j) (hU i hi).lt (by omega)]
    · simp only [e, if_false]
  · by_cases e : i = k
    · subst e
      simpa using hb
    · simp only [e, if_false]
      exact (hU i hi).congr fun y hy => by simp [e]

/-- What has been looked at: all labels ahead of k, and of k those ahead of j. -/
def doneT (T : Nat → Nat → Bool) (k j : Nat) : Nat → Nat → Bool := fun a b => T a b && (decide (a < k) || (a == k && decide (b < j)))

theorem done_skip {T : Nat → Nat → Bool} {k j : Nat} (h : T k j = false) (x y : Nat) : doneT T k j x y = doneT T k (j + 1) x y := by
  unfold doneT
  by_cases e1 : x = k
  · by_cases e2 : y = j
    · subst e1 e2; simp [h]
    · subst e1
      have : (decide (y < j)) = decide (y < j + 1) := by rw [decide_eq_decide]; omega
      simp [this]
  · have e2 : (x == k) = false := by simp [e1]
    simp [e2]
theorem done_put {T : Nat → Nat → Bool} {k j : Nat} (h : T k j = true) (x y : Nat) : (doneT T k j x y || (x == k && y == j)) = doneT T k (j + 1) x y := by
  unfold doneT
  by_cases e1 : x = k
  · by_cases e2 : y = j
    · subst e1 e2; simp [h]
    · subst e1
      have : (decide (y < j)) = decide (y < j + 1) := by rw [decide_eq_decide]; omega
      simp [this, e2]
  · have e2 : (x == k) = false := by simp [e1]
    simp [e2]
theorem done_row {T : Nat → Nat → Bool} {k n : Nat} (x y : Nat) (hy : y < n) : doneT T k n x y = doneT T (k + 1) 0 x y := by
  unfold doneT
  by_cases e1 : x = k
  · subst e1; simp [hy]
  · have : decide (x < k) = decide (x < k + 1) := by rw [decide_eq_decide]; omega
    have e2 : (x == k) = false := by simp [e1]
    rw [this, e2]
    simp
theorem done_all {T : Nat → Nat → Bool} {n : Nat} (x y : Nat) (hx : x < n) : doneT T n 0 x y = T x y := by simp [doneT, hx]

theorem Side.congr {w : World} {b n : Nat} {T R : Nat → Nat → Bool} (h : Side w b n T) (e : ∀ x y, x < n → y < n → T x y = R x y) : Side w b n R := by
  obtain ⟨U, hr, hu⟩ := h
  exact ⟨U, hr, fun i hi => (hu i hi).congr fun y hy => e i y hi hy⟩

theorem Build.congr {w wr : World} {lb ub db n : Nat} {Tu Td Ru Rd : Nat → Nat → Bool} (h : Build w wr lb ub db n Tu Td) (eu : ∀ x y, x < n → y < n → Tu x y = Ru x y) (ed : ∀ x y, x < n → y < n → Td x y = Rd x y) : Build w wr lb ub db n Ru Rd :=
  { h with up := h.up.congr eu, dn := h.dn.congr ed }

theorem Build.ne_up {w wr : World} {lb ub db n : Nat} {Tu Td : Nat → Nat → Bool} (h : Build w wr lb ub db n Tu Td) : ub ≠ lb := by
  obtain ⟨U, hr, _⟩ := h.up
  exact row_ne hr h.blk (by decide)
theorem Build.ne_dn {w wr : World} {lb ub db n : Nat} {Tu Td : Nat → Nat → Bool} (h : Build w wr lb ub db n Tu Td) : db ≠ lb := by
  obtain ⟨U, hr, _⟩ := h.dn
  exact row_ne hr h.blk (by decide)

theorem Build.setUp {w wr : World} {lb ub db n : Nat} {Tu Td Ru : Nat → Nat → Bool} (h : Build w wr lb ub db n Tu Td) {k : Nat} {v : Value} (hs : Side (wr.setCell ⟨ub, k, none⟩ v) ub n Ru) : Build w (wr.setCell ⟨ub, k, none⟩ v) lb ub db n Ru Td where
  blk := (Below.heap_setCell wr ⟨ub, k, none⟩ v lb (Ne.symm h.ne_up)).trans h.blk
  up := hs
  dn := h.dn.of_block (Below.heap_setCell wr ⟨ub, k, none⟩ v db (Ne.symm h.ne))
  ne := h.ne
  nu := h.nu
  nd := h.nd
  nl := h.nl
  old := h.old.setCell h.nu v
theorem Build.setDn {w wr : World} {lb ub db n : Nat} {Tu Td Rd : Nat → Nat → Bool} (h : Build w wr lb ub db n Tu Td) {k : Nat} {v : Value} (hs : Side (wr.setCell ⟨db, k, none⟩ v) db n Rd) : Build w (wr.setCell ⟨db, k, none⟩ v) lb ub db n Tu Rd where
  blk := (Below.heap_setCell wr ⟨db, k, none⟩ v lb (Ne.symm h.ne_dn)).trans h.blk
  up := h.up.of_block (Below.heap_setCell wr ⟨db, k, none⟩ v ub h.ne)
  dn := hs
  ne := h.ne
  nu := h.nu
  nd := h.nd
  nl := h.nl
  old := h.old.setCell h.nd v
theorem Build.drew {w wr : World} {lb ub db n : Nat} {Tu Td : Nat → Nat → Bool} (h : Build w wr lb ub db n Tu Td) : Build w wr.drew lb ub db n Tu Td where
  blk := h.blk
  up := h.up
  dn := h.dn
  ne := h.ne
  nu := h.nu
  nd := h.nd
  nl := h.nl
  old := h.old.drew

theorem Build.drewN {w wr : World} {lb ub db n : Nat} {Tu Td : Nat → Nat → Bool} (h : Build w wr lb ub db n Tu Td) (q : Nat) : Build w (wr.drewN q) lb ub db n Tu Td where
  blk := h.blk
  up := h.up
  dn := h.dn
  ne := h.ne
  nu := h.nu
  nd := h.nd
  nl := h.nl
  old := ⟨h.old.os, h.old.tape, h.old.output, h.old.size, h.old.block⟩

theorem build_start (w : World) (n : Nat) (a b : Nat) (wc : World) (hwc : wc = ((w.alloc (.cells (madeCells #[.int .u64 0] n) 86)).alloc (.cells (madeCells #[.int .u64 0] n) 86)).alloc
      (.cells #[.slice (some ⟨a, 0, none⟩) n n, .slice (some ⟨b, 0, none⟩) n n, .int .u32 0, .int .i32 0, .int .u32 0, .slice none 0 0, .slice none 0 0] 85)) (h : (a = w.heap.size ∧ b = w.heap.size + 1) ∨ (a = w.heap.size + 1 ∧ b = w.heap.size)) :
    Build w wc (w.heap.size + 1 + 1) a b n (fun _ _ => false) (fun _ _ => false) := by
  have r0 : wc.rowIs w.heap.size 86 n (fun _ => .int .u64 0) := by
    rw [hwc]; exact ((World.rowIs_made w (.int .u64 0) n 86).alloc _).alloc _
  have r1 : wc.rowIs (w.heap.size + 1) 86 n (fun _ => .int .u64 0) := by
    rw [hwc]
    have := (World.rowIs_made (w.alloc (.cells (madeCells #[.int .u64 0] n) 86)) (.int .u64 0) n 86)
    simp only [World.size_alloc] at this
    exact this.alloc _
  have s0 : Side wc w.heap.size n (fun _ _ => false) := ⟨fun _ => 0, r0, fun i _ => BitsOf.zero n⟩
  have s1 : Side wc (w.heap.size + 1) n (fun _ _ => false) := ⟨fun _ => 0, r1, fun i _ => BitsOf.zero n⟩
  refine ⟨?_, ?_, ?_, by omega, by omega, by omega, by omega, ?_⟩
  · rw [hwc]
    have := Deep.blk_alloc_new ((w.alloc (.cells (madeCells #[.int .u64 0] n) 86)).alloc (.cells (madeCells #[.int .u64 0] n) 86)) (.cells #[.slice (some ⟨a, 0, none⟩) n n, .slice (some ⟨b, 0, none⟩) n n, .int .u32 0, .int .i32 0, .int .u32 0, .slice none 0 0, .slice none 0 0] 85)
    simp only [World.size_alloc] at this
    exact this
  · rcases h with ⟨rfl, rfl⟩ | ⟨rfl, rfl⟩ <;> assumption
  · rcases h with ⟨rfl, rfl⟩ | ⟨rfl, rfl⟩ <;> assumption
  · rw [hwc]
    exact (((Below.refl _ w).alloc (Nat.le_refl _) _).alloc (by simp) _).alloc (by simp; omega) _

theorem ordered_any (n p g : Nat) (T : Nat → Nat → Bool) (w : World) (hn : n ≤ 64) (h1 : 1 ≤ n)
    (hg : ∀ (args : Array Value) (W : World), (callFunc g args).run Tryd.prog W = .ok (.enter g args) W)
    (hf : ∀ (W : World) (a b : Nat), a < n → b < n → Below w.heap.size w W → Calls Tryd.prog g #[.int .i64 a, .int .i64 b, .pointer (some ⟨p, 0, none⟩)] W fun e w' => e = .returned (.bool (T a b)) ∧ ∃ k, w' = W.drewN k) :
    Calls Tryd.prog 26 #[.int .i64 n, .func (.func g) #[] #[.pointer (some ⟨p, 0, none⟩)]] w fun e w' => ∃ lb, e = .returned (.pointer (some ⟨lb, 0, none⟩)) ∧ w.heap.size ≤ lb ∧ IsLat w' lb n T ∧ Below w.heap.size w w' := by
  have HF := Lib.hid hf; clear hf
  have hmk := run_make_row' (P := Tryd.prog) 72 86 (.int .u64 0) 8 Tryd.underlying72 info_u64 rfl .i64 .i64 n (by omega) (by omega)
  go_enter Tryd.func26, Tryd.ntmps26
  go_upto_region 1 with fail
  go_cut [5] (fun s5 wc => ∃ lb ub db, s5 = .pointer (some ⟨lb, 0, none⟩) ∧ Build w wc lb ub db n (fun _ _ => false) (fun _ _ => false))
  case first =>
    go_region
    all_goals (go_wp2_with fail; go_meet)
    · exact ⟨_, _, _, rfl, (build_start w n _ _ _ rfl (Or.inl ⟨rfl, rfl⟩)).drew⟩
    · exact ⟨_, _, _, rfl, (build_start w n _ _ _ rfl (Or.inr ⟨rfl, rfl⟩)).drew⟩
  case rest =>
    obtain ⟨lb, ub, db, rfl, hB⟩ := hcut
    clear hmk
    have HB := Lib.hid hB; clear hB
    go_wp2
    go_loopw [15] (fun i wr => ∃ k : Nat, k ≤ n ∧ i = .int .i64 k ∧ Build w wr lb ub db n (doneT T k 0) (flipT (doneT T k 0))) (fun i _ => n - (intOf i).toNat)
    case atStart => exact ⟨0, Nat.zero_le _, rfl, HB.out.congr (fun x y _ _ => by simp [doneT]) (fun x y _ _ => by simp [doneT, flipT])⟩
    case round =>
      obtain ⟨k, hk, rfl, hb⟩ := hrel
      have HK := Lib.hid hb; clear hb
      clear HB
      by_cases hlt : k < n
      · go_wp2
        go_loopw [19] (fun i wr => ∃ j : Nat, j ≤ n ∧ i = .int .i64 j ∧ Build w wr lb ub db n (doneT T k j) (flipT (doneT T k j))) (fun i _ => n - (intOf i).toNat)
        case atStart => exact ⟨0, Nat.zero_le _, rfl, HK.out⟩
        case round =>
          clear HK
          obtain ⟨j, hj, rfl, hb⟩ := hrel
          rename_i wo _ _ wr
          have HJ := Lib.hid hb
          by_cases hjt : j < n
          · clear hb
            go_wp2_with fail
            refine (HF.out _ k j hlt hjt HJ.out.old).mono ?_
            cases ht : T k j
            · have HT := Lib.hid ht; clear ht
              rintro e w' ⟨rfl, q, rfl⟩
              go_wp2
              go_roundw
              case rel => exact ⟨j + 1, by omega, by go_num, (HJ.out.drewN q).congr (fun x y _ _ => done_skip HT.out x y) (fun x y _ _ => done_skip HT.out y x)⟩
              case measure => simp [intOf]; omega
            · have HT := Lib.hid ht; clear ht
              rintro e w' ⟨rfl, q, rfl⟩
              have hb := HJ.out.drewN q
              clear HJ
              revert hb
              generalize wr.drewN q = wr
              intro hb
              obtain ⟨U, hr, hU⟩ := hb.up
              obtain ⟨D, hr', hD⟩ := hb.dn
              have c0 : wr.cell? ⟨lb, 0, none⟩ = some (.slice (some ⟨ub, 0, none⟩) n n) := by rw [cell_of hb.blk]; rfl
              have ck := hr.cell hlt
              have fk := hr.frozen k
              have hB1 := hb.setUp (put_bit hr hU hlt hjt hn)
              have c1 : (wr.setCell ⟨ub, k, none⟩ (.int .u64 (bits .or .u64 (U k : Int) (IntKind.u64.wrap (2 ^ j))))).cell? ⟨lb, 1, none⟩ = some (.slice (some ⟨db, 0, none⟩) n n) := by rw [cell_of hB1.blk]; rfl
              have hr1 := hr'.of_block (Below.heap_setCell wr ⟨ub, k, none⟩ (.int .u64 (bits .or .u64 (U k : Int) (IntKind.u64.wrap (2 ^ j)))) db (Ne.symm hb.ne))
              have cj := hr1.cell hjt
              have fj := hr1.frozen j
              have hB2 := hB1.setDn (put_bit hr1 hD hjt hlt hn)
              have HB2 := Lib.hid hB2
              clear hb hr hU hr' hD hB1 hr1 hB2
              go_wp2
              go_region
              go_wp2
              go_region
              go_wp2
              go_roundw
              case rel => exact ⟨j + 1, by omega, by go_num, HB2.out.drew.drew.congr (fun x y _ _ => done_put HT.out x y) (fun x y _ _ => by
                have := done_put HT.out y x
                simp only [flipT]
                rw [← this, Bool.and_comm (y == k)])⟩
              case measure => simp [intOf]; omega
          · have hjn : j = n := by omega
            subst hjn
            go_wp2
            go_roundw
            case rel => exact ⟨k + 1, by omega, by go_num, HJ.out.congr (fun x y _ hy => done_row x y hy) (fun x y hx _ => done_row y x hx)⟩
            case measure => simp [intOf]; omega
      · have hkn : k = n := by omega
        subst hkn
        go_wp2
        go_ret
        exact ⟨lb, rfl, HK.out.nl, ⟨ub, db, 0, _, _, ⟨HK.out.blk, HK.out.up.congr (fun x y hx _ => done_all x y hx), HK.out.dn.congr (fun x y _ hy => done_all y x hy), hn, h1, Or.inl ⟨rfl, rfl, rfl⟩⟩⟩, HK.out.old⟩
end Go.Proofs.YtbknfbobidgkkaaDoor
