/- Layer 1: Downset. -/
import Derived.Test.YtnccnaadhknfbaaLatK
import Derived.OwnWalk
namespace Go.Proofs.Ytnccnaadhknfbaa
open Go.RowKit Lat

/-- The labels ahead of k that are below x, rising. -/
def downs (T : Nat → Nat → Bool) (x k : Nat) : List Nat := (List.range k).filter fun b => T b x
theorem downs_succ (T : Nat → Nat → Bool) (x k : Nat) : downs T x (k + 1) = downs T x k ++ if T k x then [k] else [] := by
  unfold downs
  rw [List.range_succ, List.filter_append]
  cases h : T k x <;> simp [h]
theorem downs_len (T : Nat → Nat → Bool) (x k : Nat) : (downs T x k).length ≤ k := by
  unfold downs
  exact Nat.le_trans (List.length_filter_le _ _) (by simp)
def ints (l : List Nat) : List Value := l.map fun b : Nat => Value.int .i64 (b : Int)

theorem add_zero (g k : Nat) : (⟨g, 0, none⟩ : Addr).add k = ⟨g, k, none⟩ := by
  unfold Addr.add
  split
  · rename_i h; subst h; rfl
  · simp

/-- A slice of the call's own that holds these numbers. -/
def OwnInts (w : World) (base : Nat) (v : Value) (l : List Nat) : Prop := w.ownsRow base 3 1 v l.length (ints l)

theorem own_shape {w : World} {base : Nat} {v : Value} {l : List Nat} (h : OwnInts w base v l) : ∃ A c, v = .slice A l.length c ∧ ∀ k, k < l.length → ∃ g, A = some ⟨g, 0, none⟩ ∧ g < w.heap.size ∧ w.cell? ⟨g, k, none⟩ = some (.int .i64 (l.getD k 0 : Nat)) := by
  rcases Nat.eq_zero_or_pos l.length with h0 | hp
  · rcases h.2 with ⟨rfl, _⟩ | ⟨g, cap, cur, rfl, _⟩
    · exact ⟨none, 0, by rw [h0], fun k hk => by omega⟩
    · exact ⟨some ⟨g, 0, none⟩, cap, rfl, fun k hk => by omega⟩
  · rcases h.2 with ⟨_, h0⟩ | ⟨g, cap, cur, rfl, _, hh, _⟩
    · omega
    · refine ⟨_, cap, rfl, fun k hk => ⟨g, rfl, lt_of hh, ?_⟩⟩
      have := World.ownsRow.cells (w := w) h (g := g) rfl k (.int .i64 (l.getD k 0 : Nat)) (by simp [ints, hk])
      rw [add_zero] at this
      exact this

theorem own_ge {w : World} {base : Nat} {v : Value} {l : List Nat} (h : OwnInts w base v l) : ∀ g, v.ownBlock = some g → base ≤ g := by
  intro g hg
  rcases h.2 with ⟨rfl, _⟩ | ⟨g', cap, cur, rfl, hb, _⟩
  · simp [Value.ownBlock] at hg
  · have : g' = g := by simpa [Value.ownBlock] using hg
    omega

theorem one_new (w : World) (v : Value) (t : TypeId) : ∀ j u, [v][j]? = some u → (w.alloc (.cells #[v] t)).cell? ((⟨w.heap.size, 0, none⟩ : Addr).add j) = some u := by
  intro j u hu
  cases j with
  | zero =>
    simp at hu
    subst hu
    rw [add_zero]
    simp
  | succ j => simp at hu

set_option maxHeartbeats 800000 in
theorem downset_any (lb n : Nat) (T : Nat → Nat → Bool) (x : Nat) (w : World) (h : IsLat w lb n T) (hx : x < n) :
    Calls Try.prog 22 #[.pointer (some ⟨lb, 0, none⟩), .int .i64 x] w fun e w' => ∃ v, e = .returned v ∧ OwnInts w' w.heap.size v (downs T x n) ∧ Below w.heap.size w w' := by
  have H := Lib.hid h
  have h1 : isLabel n x = true := by simp [isLabel, hx]
  obtain ⟨ub, db, d, js, ms, hl⟩ := h
  have c1 := hl.cells.2.1
  have hle := hl.le
  have hlb := lt_of hl.blk
  obtain ⟨D, hr, hD⟩ := hl.dn
  have hdb := hr.lt
  have cx := hr.cell hx
  have hlt := (hD x hx).lt
  have HD := Lib.hid (hD x hx).bit
  have C1 := Lib.hid c1
  have CX := Lib.hid cx
  obtain ⟨i0, hi, hz0, hz1, hz2⟩ := info_parts info_int
  have HI := Lib.hid hi; have HZ0 := Lib.hid hz0; have HZ1 := Lib.hid hz1; have HZ2 := Lib.hid hz2
  clear hl hr hD hi hz0 hz1 hz2 cx
  go_enter Try.func22, Try.ntmps22
  go_wp2_with (go_at_call 30; refine (isLabel_any lb n T _ _ H.out).mono ?_; rintro e w' ⟨rfl, rfl⟩)
  clear c1
  go_loopw [5, 16] (fun v i wr => ∃ k : Nat, k ≤ n ∧ i = .int .i64 k ∧ OwnInts wr w.heap.size v (downs T x k) ∧ Below w.heap.size w wr) (fun _ i _ => n - (intOf i).toNat)
  case atStart => exact ⟨0, Nat.zero_le _, rfl, ⟨by simp [ints, downs], Or.inl ⟨rfl, by simp [downs]⟩⟩, Below.refl _ _⟩
  case round =>
    obtain ⟨k, hk, rfl, hown, hB⟩ := hrel
    rename_i wr
    by_cases hlt2 : k < n
    · have c1 := (hB.cell (p := ⟨lb, 1, none⟩) hlb).trans C1.out
      have cx := (hB.cell (p := ⟨db, x, none⟩) hdb).trans CX.out
      have hb := HD.out k
      simp only [hlt2, decide_true, Bool.true_and] at hb
      have HO := Lib.hid hown
      have HB := Lib.hid hB
      clear hown hB
      cases ht : T k x
      · have hb' : (D x).testBit k = false := by rw [hb]; exact ht
        have HT := Lib.hid (show downs T x (k + 1) = downs T x k by rw [downs_succ, ht]; simp)
        clear hb ht
        go_wp2_with (go_at_call 36; refine (has_any _ _ hlt (by omega) _).mono ?_; rintro e w' ⟨rfl, rfl⟩)
        go_roundw
        case rel => exact ⟨k + 1, by omega, by go_num, by rw [HT.out]; exact HO.out, HB.out⟩
        case measure => simp [intOf]; omega
      · have hb' : (D x).testBit k = true := by rw [hb]; exact ht
        have HT := Lib.hid (show downs T x (k + 1) = downs T x k ++ [k] by rw [downs_succ, ht]; simp)
        clear hb ht
        have hln := downs_len T x k
        go_wp2_with (first | (go_at_call 36; refine (has_any _ _ hlt (by omega) _).mono ?_; rintro e w' ⟨rfl, rfl⟩) | (at_builtin; refine wpList_append_own _ rfl (.tmp 28) (.tmp 30) 55 rfl w.heap.size 3 i0 (.int .i64 0) 1 8 Try.underlying55 HI.out HZ0.out HZ1.out HZ2.out rfl (by decide) _ _ _ rfl (World.ownsRow.alloc HO.out _) ⟨wr.heap.size, 0, none⟩ 1 1 [.int .i64 (k : Int)] rfl rfl ?c1 ?c2 ?c3 ?c4 ?c5 ?_))
        case c1 => exact one_new wr _ _
        case c2 => intro u hu; simp at hu; subst hu; rfl
        case c3 => unfold maxLen; omega
        case c4 => omega
        case c5 => have := HB.out.size; simp; omega
        intro v' w1 hown' hg _
        have HO2 := Lib.hid (show OwnInts w1 w.heap.size v' (downs T x (k + 1)) from by
          rw [HT.out]
          unfold OwnInts ints
          rw [List.map_append, List.length_append]
          exact hown')
        have HB2 := Lib.hid ((HB.out.alloc HB.out.size _).grown hg (by have := HB.out.size; simp; omega) (own_ge HO.out))
        clear hown' hg HO HB
        go_wp2
        go_roundw
        case rel => exact ⟨k + 1, by omega, by go_num, HO2.out, HB2.out⟩
        case measure => simp [intOf]; omega
    · have hkn : k = n := by omega
      subst hkn
      have HO := Lib.hid hown
      have HB := Lib.hid hB
      clear hown hB
      go_wp2
      go_ret
      exact ⟨_, rfl, HO.out, HB.out⟩

theorem downset_none (lb n : Nat) (T : Nat → Nat → Bool) (a : Int) (w : World) (h : IsLat w lb n T) (hx : isLabel n a = false) :
    Calls Try.prog 22 #[.pointer (some ⟨lb, 0, none⟩), .int .i64 a] w fun e w' => e = .returned (.slice none 0 0) ∧ w = w' := by
  have H := Lib.hid h
  clear h
  go_enter Try.func22, Try.ntmps22
  go_wp2_with (go_at_call 30; refine (isLabel_any lb n T _ _ H.out).mono ?_; rintro e w' ⟨rfl, rfl⟩)
  go_ret
  exact ⟨rfl, rfl⟩
end Go.Proofs.Ytnccnaadhknfbaa
