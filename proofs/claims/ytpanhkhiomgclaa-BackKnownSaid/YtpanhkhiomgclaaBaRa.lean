/- Layer 14: what a range over a function that collects numbers needs. -/
import Derived.Test.YtpanhkhiomgclaaBaIt
import Derived.OwnWalkIn
import Derived.TacticsInMore
import Derived.LoopNIn
import Derived.LoopIn
import Derived.Maps.AppendAt
set_option linter.unusedVariables false
namespace Go.Proofs.Ytpanhkhiomgclaa.Ba
open Go.RowKit Go.Shelf
attribute [local go_sem] Oper.semAt_some

theorem wpListIn_append_at {F : Fence} {n : Nat} {P : Program} (w : World) {ops : Array Oper} {rest : List Oper} {o : Oper} {a : Act} {Q : Exit → Act → World → Prop}
    (hgd : o.guard = none) (s x : Operand) (t : TypeId)
    (ho : o.op = .call { callee := .builtin .append, args := #[s, x], argTypes := #[t, t] })
    (base : Nat) (e : TypeId) (i : TypeInfo) (z : Value) (size bytes : Nat) (ht : P.underlying t = some (.slice e)) (hi : P.info? e = some i) (hz : i.zero = some z)
    (hsize : i.size = size) (hby : i.bytes = bytes) (hzs : z.cells.size = size) (hsz : 0 < size)
    (v : Value) (k : Nat) (xs : List Value) (hs : a.eval s = v) (hown : w.ownsRow base e size v k xs)
    (ad : Addr) (m c : Nat) (news : List Value) (hx : a.eval x = .slice (some ad) m c) (hl : news.length = m * size) (hnews : ∀ j u, news[j]? = some u → w.cell? (ad.add j) = some u) (h1 : ∀ u ∈ news, u.oneCell' = true)
    (h63 : k + m ≤ maxLen) (hbytes : (k + m) * bytes ≤ 140737488355328) (hbase : base ≤ w.heap.size)
    (h : ∀ v' w', w'.ownsRow base e size v' (k + m) (xs ++ news) → w.grownBy w' v.ownBlock → (v'.ownBlock = v.ownBlock ∨ v'.ownBlock = some w.heap.size) → wpListIn F n P ops Q rest (a.put o.dst v') w') : wpListIn F n P ops Q (o :: rest) a w := by
  refine wpListIn_plain hgd fun K hK' => ?_
  obtain ⟨v', w', hr, h2, h3, h4, h5⟩ := run_append_own_at (P := P) w base t o.type e i z size bytes ht hi hz hsize hby hzs hsz v k xs hown ad m c news hl hnews h1 h63 hbytes hbase
  unfold Oper.wpIn
  refine ⟨?_, ?_⟩
  · simp [Oper.about, ho, resolve, Target.leads, Sem.run_pure]
  · rw [Oper.semAt_plain F _ _ (by rw [ho]; intro c hc'; cases hc')]
    simp [execOp, ho, resolve, invoke, builtin, hs, hx, hr, Result.andThen]
    exact hK' _ _ (h v' w' h2 h3 h5)

/-- What a loop that collects may turn: its box, and the row of what stands in it. -/
def MineA (B : Nat) (W : World) (k : Nat) : Prop := ∃ v, Boxed W B 22 v ∧ (k = B ∨ v.ownBlock = some k)
theorem mineA_ok {S B : Nat} (h : B < S) : MineOk S (MineA B) := by
  rintro W W' row hS hg hrow k ⟨v, hv, hk⟩
  refine ⟨v, ?_, hk⟩
  have : W'.heap[B]? = W.heap[B]? := hg.block B (by omega) (fun e => by have := (hrow B e.symm).1; omega)
  exact this.symm.trans hv
theorem box_append {S0 B m : Nat} {W w1 : World} {v v' : Value} {l : List Int} {ys : List Value} {o : Obj} (hv : Boxed W B 22 v) (hr : OwnI W S0 v l) (hBS : B < S0) (hS : S0 ≤ W.heap.size) (hr' : w1.ownsRow S0 3 1 v' m ys) (hg : (W.alloc o).grownBy w1 v.ownBlock) (hat : v'.ownBlock = v.ownBlock ∨ v'.ownBlock = some (W.alloc o).heap.size) :
    Boxed w1 B 22 v ∧ Boxed (w1.setCell ⟨B, 0, none⟩ v') B 22 v' ∧ (w1.setCell ⟨B, 0, none⟩ v').ownsRow S0 3 1 v' m ys ∧ KeepsOthers W (w1.setCell ⟨B, 0, none⟩ v') ∧ Below B W (w1.setCell ⟨B, 0, none⟩ v') ∧ Below B W w1 ∧ KpM (MineA B) W (w1.setCell ⟨B, 0, none⟩ v') := by
  have hs : (W.alloc o).heap.size = W.heap.size + 1 := by simp
  have hal : ∀ k, k < W.heap.size → (W.alloc o).heap[k]? = W.heap[k]? := fun k hk => Below.heap_alloc W o k hk
  have hge : ∀ g, v.ownBlock = some g → S0 ≤ g := fun g h => (ownI_ge hr g h).1
  have h1 : Boxed w1 B 22 v := (hg.block B (by omega) (fun e => by have := hge B e.symm; omega)).trans ((hal B (by omega)).trans hv)
  have hbw : Below B W w1 := (((Below.refl B W).alloc (by omega) o).grown hg (by omega) (fun k e => by have := hge k e; omega))
  have hsz : W.heap.size ≤ (w1.setCell ⟨B, 0, none⟩ v').heap.size := by
    have := hg.size
    simp only [World.size_setCell]
    omega
  refine ⟨h1, h1.set v', ⟨hr'.1, ?_⟩, ⟨hsz, fun k ob hk hc => ?_⟩, hbw.setCell (p := ⟨B, 0, none⟩) (Nat.le_refl _) v', hbw, hsz, fun k cs t fr hk hn => ?_, fun k hk hm => ?_⟩
  · rcases hr'.2 with h0 | ⟨g, cap, cur, rfl, a1, a2, a3⟩
    · exact Or.inl h0
    · exact Or.inr ⟨g, cap, cur, rfl, a1, (Below.heap_setCell _ _ _ _ (show g ≠ B by omega)).trans a2, a3⟩
  · have hkl := blk_lt hk
    have hb : k ≠ B := fun e => by
      rw [e, hv] at hk
      cases hk
      simp [Obj.isCells] at hc
    rw [Below.heap_setCell _ _ _ _ hb]
    refine ((hg.block k (by omega) (fun e => ?_)).trans (hal k hkl)).trans hk
    obtain ⟨_, _, cur, hcc⟩ := ownI_ge hr k e.symm
    rw [hcc] at hk
    cases hk
    simp [Obj.isCells] at hc
  · have hkl := blk_lt hk
    rw [Below.heap_setCell _ _ _ _ (show k ≠ B from fun e => hn ⟨v, hv, Or.inl e⟩)]
    exact (hg.block k (by omega) (fun e => hn ⟨v, hv, Or.inr e.symm⟩)).trans (hal k hkl)
  · obtain ⟨v2, hv2, h2⟩ := hm
    have e : v2 = v' := by
      have := (show _ = _ from hv2).symm.trans (h1.set v')
      simpa using this
    subst e
    rcases h2 with h2 | h2
    · exact ⟨v, hv, Or.inl h2⟩
    · rcases hat with ha | ha
      · exact ⟨v, hv, Or.inr (ha ▸ h2)⟩
      · rw [ha] at h2
        have : (W.alloc o).heap.size = k := by simpa using h2
        omega

theorem keeps_set {W : World} {R : Nat} {cs : Array Value} {t : TypeId} {fr : Nat × Nat} (h : W.heap[R]? = some (.cells cs t fr)) (v : Value) : KeepsOthers W (W.setCell ⟨R, 0, none⟩ v) := by
  refine ⟨by simp, fun k ob hk hc => ?_⟩
  have hb : k ≠ R := fun e => by
    rw [e, h] at hk
    cases hk
    simp [Obj.isCells] at hc
  rw [Below.heap_setCell _ _ _ _ hb]
  exact hk
/-! ### things with their numbers -/
def numB (pre : List (Nat × Int)) : Prop := pre.map (·.1) = List.range pre.length
def valV (pre : List (Nat × Int)) : List Int := pre.map (·.2)
theorem pairs_val (L : List Int) : valV (pairs L) = L := by
  refine List.ext_getElem (by simp [valV, pairs]) fun k h1 h2 => ?_
  simp [valV, pairs, h2]
theorem pairs_num (L : List Int) : numB (pairs L) := by
  unfold numB pairs
  rw [List.map_map, List.length_map, List.length_range]
  exact List.map_id _
theorem pre_of {L : List Int} {pre : List (Nat × Int)} (h : pre <+: pairs L) : valV pre = L.take pre.length ∧ numB pre := by
  have e : pre = (pairs L).take pre.length := List.prefix_iff_eq_take.1 h
  have hl := h.length_le
  rw [pairs_len] at hl
  refine ⟨?_, ?_⟩
  · have := congrArg valV e
    unfold valV at this
    rw [List.map_take] at this
    unfold valV
    rw [this]
    have hp := pairs_val L
    unfold valV at hp
    rw [hp]
  · have := congrArg (List.map (·.1)) e
    rw [List.map_take] at this
    unfold numB
    rw [this]
    have hp := pairs_num L
    unfold numB at hp
    rw [hp, pairs_len, List.take_range, Nat.min_eq_left hl]
theorem num_step {pre : List (Nat × Int)} (h : numB pre) (x : Nat × Int) : numB (pre ++ [x]) ↔ x.1 = pre.length := by
  unfold numB at h ⊢
  rw [List.map_append, h, List.length_append, List.length_singleton, List.range_succ]
  simp
theorem val_len (pre : List (Nat × Int)) : (valV pre).length = pre.length := by simp [valV]
theorem val_step (pre : List (Nat × Int)) (x : Nat × Int) : valV (pre ++ [x]) = valV pre ++ [x.2] := by simp [valV]

theorem results_row {fn : Func} {p : Tmp} (h : fn.results = #[.cell p 22]) (tmps : Array Value) (w : World) (g : Nat) (A : Option Addr) (n c : Nat) (hp : tmps.getD p undef = .pointer (some ⟨g, 0, none⟩)) (hg : Boxed w g 22 (.slice A n c)) : (results fn tmps).run Try.prog w = .ok (.slice A n c) w := by
  have hc := hg.cell
  have hp' : tmps[p]?.getD undef = .pointer (some ⟨g, 0, none⟩) := by simpa using hp
  have ha : (isAgg 22).run Try.prog w = .ok false w := by kernel_rfl
  simp [results, h, hp', asAddr, loadVar, ha, hc, go_sem]
/-- The function's end: the result stands in its box, the rounds' deferred calls are put away. -/
theorem end_own {w w2 W : World} {B R S0 D : Nat} {L : List Int} {A : Option Addr} {n c : Nat} (hO : OwnI W S0 (.slice A n c) L) (hR : W.heap[R]? = some (.cells #[.slice none 0 0] 22 (0, 0))) (hK : W.heap[D]? = some (.deferred (some []))) (hb2 : Below w.heap.size w w2) (hbW : Below B w2 W) (hRw : w.heap.size ≤ R) (hRB : R < B) (hBS : B < S0) (hS : S0 = w2.heap.size) (hD : w2.heap.size ≤ D) :
    (W.setCell ⟨R, 0, none⟩ (.slice A n c)).heap[D]? = some (.deferred (some [])) ∧ Boxed ((W.setCell ⟨R, 0, none⟩ (.slice A n c)).putObj D (.deferred none)) R 22 (.slice A n c) ∧ OwnI ((W.setCell ⟨R, 0, none⟩ (.slice A n c)).putObj D (.deferred none)) w.heap.size (.slice A n c) L ∧ Below w.heap.size w ((W.setCell ⟨R, 0, none⟩ (.slice A n c)).putObj D (.deferred none)) := by
  have hDR : D ≠ R := by omega
  have hK2 : (W.setCell ⟨R, 0, none⟩ (.slice A n c)).heap[D]? = some (.deferred (some [])) := by rw [Below.heap_setCell _ _ _ _ hDR]; exact hK
  have hg := grownBy_putObj' (W.setCell ⟨R, 0, none⟩ (.slice A n c)) D (.deferred none)
  have hB1 : Boxed (W.setCell ⟨R, 0, none⟩ (.slice A n c)) R 22 (.slice A n c) := Boxed.set _ hR
  have hO1 : OwnI (W.setCell ⟨R, 0, none⟩ (.slice A n c)) S0 (.slice A n c) L := ownI_keep hO fun g hg => Below.heap_setCell _ _ _ _ (by have := (ownI_ge hO g hg).1; show g ≠ R; omega)
  have hb : Below w.heap.size w (W.setCell ⟨R, 0, none⟩ (.slice A n c)) := (hb2.trans (hbW.mono (by omega))).setCell (p := ⟨R, 0, none⟩) hRw _
  refine ⟨hK2, hB1.kept hg (fun e => by cases e; exact hDR rfl), ownI_less (ownsRow_putObj hO1 _ hK2 rfl) (by have := hb2.size; omega), hb.trans (belowK_b (w := w2) hb2.size _ D _ _ hD hK2 rfl rfl)⟩

end Go.Proofs.Ytpanhkhiomgclaa.Ba
