/- Layer 7: list; Clone. -/
import Derived.Test.YtfekjlajagoooaaDoorF7PaC
import Derived.OwnWalk
import Derived.LoopTactic
import Derived.Laws.NewBlocks
namespace Go.Proofs.YtfekjlajagoooaaDoor.P7
open Go.RowKit Par

theorem run_snoc (o : Option PS) (l : List UInt8) (k : Nat) (h : k < l.length) : runP o (l.take (k + 1)) = comes (runP o (l.take k)) l[k].toNat := by
  rw [List.take_succ_eq_append_getElem h, runP_append]
  rfl

def intV (l : List Nat) : List Value := l.map fun r : Nat => Value.int .i64 (r : Int)
theorem info_int : (Tryd.prog.info? 3).map (fun i => (i.zero, i.size, i.bytes)) = some (some (.int .i64 0), 1, 8) := by kernel_rfl

theorem add_zero (g k : Nat) : (⟨g, 0, none⟩ : Addr).add k = ⟨g, k, none⟩ := by
  unfold Addr.add
  split
  · rename_i h; subst h; rfl
  · simp
theorem add_off (g o k : Nat) : (⟨g, o, none⟩ : Addr).add k = ⟨g, o + k, none⟩ := by
  unfold Addr.add
  split
  · rename_i h; subst h; rfl
  · simp

theorem not_nil (a o n c : Nat) (W : World) : (binOp .eql 47 (.slice (some ⟨a, o, none⟩) n c) (.slice none 0 0)).run Tryd.prog W = .ok (.bool false) W := by kernel_rfl

theorem own_empty (w : World) (e : TypeId) : (w.alloc (.cells #[] e)).ownsRow w.heap.size e 1 (.slice (some ⟨w.heap.size, 0, none⟩) 0 0) 0 [] :=
  ⟨rfl, Or.inr ⟨_, 0, #[], rfl, Nat.le_refl _, heap_alloc_new w _, Nat.le_refl _, by unfold maxLen; omega, rfl, by simp⟩⟩

/-- slices.Clone of what lies in a list. -/
theorem clone_any (a o c : Nat) (xs : List Nat) (w : World) (hl : xs.length ≤ c) (hc8 : c ≤ 1000000) (hc : ∀ j, j < xs.length → w.cell? ⟨a, o + j, none⟩ = some (.int .i64 (xs.getD j 0 : Nat))) (ha : a < w.heap.size) :
    Calls Tryd.prog 84 #[.slice (some ⟨a, o, none⟩) xs.length c] w fun e w' => ∃ v, e = .returned v ∧ w'.ownsRow w.heap.size 3 1 v xs.length (intV xs) ∧ Below w.heap.size w w' := by
  obtain ⟨i0, hi, hz0, hz1, hz2⟩ := info_parts info_int
  have HI := Lib.hid hi; have HZ0 := Lib.hid hz0; have HZ1 := Lib.hid hz1; have HZ2 := Lib.hid hz2
  obtain ⟨n, hn⟩ : ∃ n, n = xs.length := ⟨_, rfl⟩
  have HC := Lib.hid hc
  have HN := Lib.hid hn
  have hq := not_nil a o n c
  rw [← hn] at hl ⊢
  clear hi hz0 hz1 hz2 hc hn
  go_enter Tryd.func84, Tryd.ntmps84
  have HA := Lib.hid ha
  have h0 : Hid ((w.alloc (.cells #[] 3)).ownsRow w.heap.size 3 1 (.slice (some ⟨w.heap.size, 0, none⟩) 0 0) 0 []) := Lib.hid (own_empty w 3)
  clear ha
  go_wp2_with (at_builtin; refine wpList_append_own _ rfl (.tmp 5) (.tmp 6) 47 rfl w.heap.size 3 i0 (.int .i64 0) 1 8 Tryd.underlying47 HI.out HZ0.out HZ1.out HZ2.out rfl (by decide) _ _ _ rfl h0.out ⟨a, o, none⟩ n c (intV xs) rfl ?c0 ?c1 ?c2 ?c3 ?c4 ?c5 ?_)
  case c0 => rw [HN.out]; simp [intV]
  case c1 =>
    intro j u hu
    have hj : j < xs.length := by
      have := (List.getElem?_eq_some_iff.1 hu).1
      simpa [intV] using this
    rw [add_off, World.cell?_alloc_lt _ _ _ (by exact HA.out), HC.out j hj, ← hu]
    simp [intV, hj]
  case c2 =>
    intro u hu
    simp only [intV, List.mem_map] at hu
    obtain ⟨r, _, rfl⟩ := hu
    rfl
  case c3 => unfold maxLen; omega
  case c4 => omega
  case c5 => simp
  intro v' w1 hown hg _
  have HO : Hid (w1.ownsRow w.heap.size 3 1 v' n (intV xs)) := Lib.hid (by simpa using hown)
  have HB : Hid (Below w.heap.size w w1) := Lib.hid (((Below.refl _ _).alloc (Nat.le_refl _) _).grown hg (by simp) (fun g h => by simp [Value.ownBlock] at h; omega))
  clear hown hg h0
  go_wp2
  go_ret
  exact ⟨_, rfl, HO.out, HB.out⟩
end Go.Proofs.YtfekjlajagoooaaDoor.P7
