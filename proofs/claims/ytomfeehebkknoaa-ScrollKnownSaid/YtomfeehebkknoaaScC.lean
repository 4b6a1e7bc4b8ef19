/- Layer 13: lines of the call's own, to be written; the law's of. -/
import Derived.Test.YtomfeehebkknoaaScB
set_option linter.unusedVariables false
namespace Go.Proofs.Ytomfeehebkknoaa.Rw
open Go.RowKit

/-- A row that may be written, in blocks of F. -/
def RowW (F : Nat → Prop) (w : World) (u : Value) : Prop := ∃ A n c, u = .slice A n c ∧ (n ≤ c ∧ c ≤ 9223372036854775807) ∧ (0 < n → ∃ b o cs, A = some ⟨b, o, none⟩ ∧ F b ∧ w.heap[b]? = some (.cells cs 40 (0, 0)) ∧ o + n * 7 ≤ cs.size)
/-- Lines that may be written. -/
def TabW (F : Nat → Prop) (w : World) (v : Value) (N : Nat) : Prop := ∃ A c, v = .slice A N c ∧ (N ≤ c ∧ c ≤ 9223372036854775807) ∧ (0 < N → ∃ b o cs, A = some ⟨b, o, none⟩ ∧ F b ∧ w.heap[b]? = some (.cells cs 38 (0, 0)) ∧ o + N ≤ cs.size ∧ ∀ k, k < N → ∃ u, cs[o + k]? = some u ∧ RowW F w u)
theorem RowW.keep {F : Nat → Prop} {w w' : World} {u : Value} (h : RowW F w u) (hk : ∀ b, F b → b < w.heap.size → w'.heap[b]? = w.heap[b]?) : RowW F w' u := by
  obtain ⟨A, n, c, e, h1, h2⟩ := h
  refine ⟨A, n, c, e, h1, fun hn => ?_⟩
  obtain ⟨b, o, cs, e2, hF, hb, hs⟩ := h2 hn
  exact ⟨b, o, cs, e2, hF, (hk b hF (blk_lt hb)).trans hb, hs⟩
theorem TabW.keep {F : Nat → Prop} {w w' : World} {v : Value} {N : Nat} (h : TabW F w v N) (hk : ∀ b, F b → b < w.heap.size → w'.heap[b]? = w.heap[b]?) : TabW F w' v N := by
  obtain ⟨A, c, e, h1, h2⟩ := h
  refine ⟨A, c, e, h1, fun hn => ?_⟩
  obtain ⟨b, o, cs, e2, hF, hb, hs, hr⟩ := h2 hn
  refine ⟨b, o, cs, e2, hF, (hk b hF (blk_lt hb)).trans hb, hs, fun k hk' => ?_⟩
  obtain ⟨u, hu, hw⟩ := hr k hk'
  exact ⟨u, hu, hw.keep hk⟩
/-- What Up and Down answer: two slices of lines, each in blocks of its own. -/
def TwoPost (w : World) (l1 l2 : Ls) (e : Ending) (w' : World) : Prop := ∃ o g, ∃ F1 F2 : Nat → Prop, e = .returned (.tuple #[o, g]) ∧ TabAt F1 w' o l1 ∧ TabW F1 w' o l1.length ∧ TabAt F2 w' g l2 ∧ TabW F2 w' g l2.length ∧ (∀ b, F1 b → w.heap.size ≤ b ∧ b < w'.heap.size ∧ ¬ F2 b) ∧ (∀ b, F2 b → w.heap.size ≤ b ∧ b < w'.heap.size) ∧ Below w.heap.size w w'
def OnePost (w : World) (l1 : Ls) (e : Ending) (w' : World) : Prop := ∃ o, ∃ F1 : Nat → Prop, e = .returned o ∧ TabAt F1 w' o l1 ∧ TabW F1 w' o l1.length ∧ (∀ b, F1 b → w.heap.size ≤ b ∧ b < w'.heap.size) ∧ Below w.heap.size w w'

/-! ### of -/
def ofL (s : ByteArray) : Ls := s.data.toList.map fun c => [⟨(c.toNat : Int), 0, zeroAa⟩]
theorem info_line : (Try.prog.info? 38).map (fun i => (i.zero, i.size, i.bytes)) = some (some (.slice none 0 0), 1, 24) := by kernel_rfl
theorem of_len (s : ByteArray) : (ofL s).length = s.size := by simp [ofL]
theorem of_step (s : ByteArray) (k : Nat) (h : k < s.size) : (ofL s).take (k + 1) = (ofL s).take k ++ [[⟨(s[k].toNat : Int), 0, zeroAa⟩]] := by
  rw [List.take_add_one, List.getElem?_eq_getElem (by rw [of_len]; exact h)]
  congr 1
  simp [ofL]
  rfl
/-- The blocks of cells from a block on. -/
def Fc (B : Nat) (w : World) (b : Nat) : Prop := B ≤ b ∧ ∃ cs, w.heap[b]? = some (.cells cs 40 (0, 0))
/-- The lines of the call's own, as they grow: the slices us, each reads so. -/
def GrowT (w0 wr : World) (v : Value) (us : List Value) (ls : Ls) : Prop := wr.ownsRow w0.heap.size 38 1 v us.length us ∧ us.length = ls.length ∧ (∀ k, k < us.length → RowAt (Fc w0.heap.size wr) wr (us.getD k undef) (lineV ls k)) ∧ Below w0.heap.size w0 wr
theorem grow_nil (w0 wr : World) (h : Below w0.heap.size w0 wr) : GrowT w0 wr (.slice none 0 0) [] [] := ⟨World.ownsRow_nil _ _ _ _, rfl, fun k hk => absurd hk (Nat.not_lt_zero _), h⟩
theorem grow_own {w0 wr : World} {v : Value} {us : List Value} {ls : Ls} (h : GrowT w0 wr v us ls) : ∀ g, v.ownBlock = some g → w0.heap.size ≤ g ∧ g < wr.heap.size ∧ ∃ cs, wr.heap[g]? = some (.cells cs 38 (0, 0)) := by
  intro g hg
  rcases h.1.2 with ⟨rfl, _⟩ | ⟨g', cap, cur, rfl, hb, hh, _⟩
  · simp [Value.ownBlock] at hg
  · have : g' = g := by simpa [Value.ownBlock] using hg
    subst this
    exact ⟨hb, blk_lt hh, cur, hh⟩
theorem fc_ne {w0 wr wx : World} {v : Value} {us : List Value} {ls : Ls} (h : GrowT w0 wr v us ls) (hx : Below wr.heap.size wr wx) {b : Nat} (hb : Fc w0.heap.size wx b) : some b ≠ v.ownBlock := fun e => by
  obtain ⟨_, hl, cs, hc⟩ := grow_own h b e.symm
  obtain ⟨_, cs2, hc2⟩ := hb
  rw [hx.block b hl, hc] at hc2
  simp at hc2
theorem grow_old {w0 wr wx : World} {v : Value} {us : List Value} {ls : Ls} (h : GrowT w0 wr v us ls) (hx : Below wr.heap.size wr wx) : GrowT w0 wx v us ls := by
  refine ⟨⟨h.1.1, ?_⟩, h.2.1, fun k hk => ?_, h.2.2.2.trans (hx.mono h.2.2.2.size)⟩
  · rcases h.1.2 with h0 | ⟨g, cap, cur, rfl, h1, h2, h3⟩
    · exact Or.inl h0
    · exact Or.inr ⟨g, cap, cur, rfl, h1, (hx.block g (blk_lt h2)).trans h2, h3⟩
  · exact ((h.2.2.1 k hk).keep (fun b _ hb => hx.block b hb) hx.size).more fun b ⟨hb, cs, hc⟩ => ⟨hb, cs, (hx.block b (blk_lt hc)).trans hc⟩
theorem grow_step {w0 wr wx w1 : World} {v v' u : Value} {us : List Value} {ls : Ls} {l : List Ce} (h : GrowT w0 wr v us ls) (hx : Below wr.heap.size wr wx) (hu : RowAt (Fc w0.heap.size wx) wx u l) (hown : w1.ownsRow w0.heap.size 38 1 v' (us.length + 1) (us ++ [u])) (hg : wx.grownBy w1 v.ownBlock) : GrowT w0 w1 v' (us ++ [u]) (ls ++ [l]) := by
  have hx' := grow_old h hx
  have hkeep : ∀ b, Fc w0.heap.size wx b → b < wx.heap.size → w1.heap[b]? = wx.heap[b]? := fun b hb hl => hg.block b hl (fc_ne h hx hb)
  have hmore : ∀ b, Fc w0.heap.size wx b → Fc w0.heap.size w1 b := fun b hb => ⟨hb.1, by obtain ⟨cs, hc⟩ := hb.2; exact ⟨cs, (hkeep b hb (blk_lt hc)).trans hc⟩⟩
  refine ⟨by rw [List.length_append, List.length_singleton]; exact hown, by rw [List.length_append, List.length_append, h.2.1]; rfl, fun k hk => ?_, hx'.2.2.2.grown hg hx'.2.2.2.size fun g hg' => (grow_own h g hg').1⟩
  rw [List.length_append, List.length_singleton] at hk
  by_cases hk' : k < us.length
  · have e1 : (us ++ [u]).getD k undef = us.getD k undef := by
      rw [List.getD_eq_getElem?_getD, List.getD_eq_getElem?_getD, List.getElem?_append_left hk']
    have e2 : lineV (ls ++ [l]) k = lineV ls k := by
      unfold lineV
      rw [List.getD_eq_getElem?_getD, List.getD_eq_getElem?_getD, List.getElem?_append_left (by rw [← h.2.1]; exact hk')]
    rw [e1, e2]
    exact ((hx'.2.2.1 k hk').keep hkeep hg.size).more hmore
  · have hke : k = us.length := by omega
    have e1 : (us ++ [u]).getD k undef = u := by
      rw [hke, List.getD_eq_getElem?_getD, List.getElem?_append_right (Nat.le_refl _), Nat.sub_self]
      rfl
    have e2 : lineV (ls ++ [l]) k = l := by
      unfold lineV
      rw [hke, h.2.1, List.getD_eq_getElem?_getD, List.getElem?_append_right (Nat.le_refl _), Nat.sub_self]
      rfl
    rw [e1, e2]
    exact (hu.keep hkeep hg.size).more hmore
/-- What has grown reads so, and may be written. -/
theorem grow_at {w0 wr : World} {v : Value} {us : List Value} {ls : Ls} (h : GrowT w0 wr v us ls) : TabAt (fun b => w0.heap.size ≤ b) wr v ls := by
  rcases h.1.2 with ⟨rfl, h0⟩ | ⟨g, cap, cur, rfl, h1, h2, h3, h4, h5, h6⟩
  · have : ls = [] := List.eq_nil_of_length_eq_zero (by rw [← h.2.1, h0])
    subst this
    exact tab_nil _ _
  · refine ⟨_, cap, by rw [h.2.1], fun e => (by cases e), by rw [← h.2.1]; exact ⟨h3, Nat.le_trans h4 (by unfold maxLen; omega)⟩, fun _ => ⟨g, 0, rfl, h1, blk_lt h2, fun k hk => ?_⟩⟩
    rw [← h.2.1] at hk
    refine ⟨us.getD k undef, ?_, (h.2.2.1 k hk).more fun b hb => hb.1⟩
    rw [cell_of h2, Nat.zero_add, List.getD_eq_getElem?_getD, List.getElem?_eq_getElem hk]
    have h6' : cur.toList.take us.length = us := by simpa using h6
    have := congrArg (fun l => l[k]?) h6'
    simp only [List.getElem?_take, if_pos hk, Array.getElem?_toList, List.getElem?_eq_getElem hk] at this
    exact this

/-- append of one line to lines of the call's own. -/
theorem append_line {ops : Array Oper} {rest : List Oper} {o : Oper} {a : Act} {Q : Exit → Act → World → Prop} (w : World) (hgd : o.guard = none) (s x : Operand)
    (ho : o.op = .call { callee := .builtin .append, args := #[s, x], argTypes := #[22, 22] }) (base : Nat) (v u : Value) (us : List Value) (hs : a.eval s = v) (hown : w.ownsRow base 38 1 v us.length us)
    (b : Nat) (hx : a.eval x = .slice (some ⟨b, 0, none⟩) 1 1) (hc : w.cell? ⟨b, 0, none⟩ = some u) (h1 : u.oneCell' = true) (hlen : us.length + 1 ≤ 1000000) (hbase : base ≤ w.heap.size)
    (h : ∀ v' w', w'.ownsRow base 38 1 v' (us.length + 1) (us ++ [u]) → w.grownBy w' v.ownBlock → wpList Try.prog ops Q rest (a.put o.dst v') w') : wpList Try.prog ops Q (o :: rest) a w := by
  obtain ⟨i0, hi, hz0, hz1, hz2⟩ := info_parts info_line
  refine wpList_append_own w hgd s x 22 ho base 38 i0 (.slice none 0 0) 1 24 Try.underlying22 hi hz0 hz1 hz2 rfl (by decide) v us.length us hs hown ⟨b, 0, none⟩ 1 1 [u] hx rfl ?_ (fun y hy => by rw [List.mem_singleton.1 hy]; exact h1) (by unfold maxLen; omega) (by omega) hbase ?_
  · intro j y hy
    have hj : j = 0 := by
      have := (List.getElem?_eq_some_iff.1 hy).1
      simpa using this
    subst hj
    rw [add_zz, hc]
    exact hy
  · intro v' w' h2 h3 _
    exact h v' w' h2 h3
set_option maxRecDepth 100000 in
set_option maxHeartbeats 2000000 in
theorem of_any (s : ByteArray) (w : World) (hs : s.size ≤ 1000) : Calls Try.prog 14 #[.string s] w fun e w' => ∃ v, e = .returned v ∧ TabAt (fun b => w.heap.size ≤ b) w' v (ofL s) ∧ Below w.heap.size w w' := by
  go_enter Try.func14, Try.ntmps14
  go_wp2
  go_loopw [3, 4] (fun v i wr => ∃ (k : Nat) (us : List Value), k ≤ s.size ∧ i = .int .i64 k ∧ Hid (us.length = k) ∧ Hid (GrowT w wr v us ((ofL s).take k))) (fun _ i _ => s.size - (RowKit.intOf i).toNat)
  case atStart => exact ⟨0, [], Nat.zero_le _, rfl, Lib.hid rfl, Lib.hid (grow_nil w w (Below.refl _ _))⟩
  case round =>
    obtain ⟨k, us, hk, rfl, HL, HG⟩ := hrel
    by_cases hlt : k < s.size
    · have glt : decide ((k : Int) < (s.size : Int)) = true := by simp; omega
      have HU : Hid ((ofL s).take (k + 1) = (ofL s).take k ++ [[⟨(s[k].toNat : Int), 0, zeroAa⟩]]) := Lib.hid (of_step s k hlt)
      have hb255 : s[k].toNat < 256 := s[k].toNat_lt
      obtain ⟨ch, hch⟩ : ∃ ch : Int, (s[k].toNat : Int) = ch := ⟨_, rfl⟩
      have zc : wrap32 (s[k].toNat : Int) = ch := by rw [← hch]; exact IntWalk.wrap32_in _ (by omega)
      rw [hch] at HU
      obtain ⟨WX, hWX⟩ : ∃ WX, (wr.alloc (.cells #[.int .i32 ch, .int .u8 0, .int .u16 0, .int .u8 0, .int .u32 0, .int .u8 0, .int .u32 0] 40 (0, 0))).alloc (.cells #[.slice (some ⟨wr.heap.size, 0, none⟩) 1 1] 38 (0, 0)) = WX := ⟨_, rfl⟩
      have hbx : Below wr.heap.size wr WX := by rw [← hWX]; exact ((Below.refl _ _).alloc (Nat.le_refl _) _).alloc (by simp) _
      have hsz : WX.heap.size = wr.heap.size + 2 := by rw [← hWX]; simp
      have hx0 : WX.heap[wr.heap.size]? = some (.cells #[.int .i32 ch, .int .u8 0, .int .u16 0, .int .u8 0, .int .u32 0, .int .u8 0, .int .u32 0] 40 (0, 0)) := by
        rw [← hWX, Below.heap_alloc _ _ _ (by simp), heap_alloc_new]
      have hx1 : WX.cell? ⟨wr.heap.size + 1, 0, none⟩ = some (.slice (some ⟨wr.heap.size, 0, none⟩) 1 1) := by
        have := heap_alloc_new (wr.alloc (.cells #[.int .i32 ch, .int .u8 0, .int .u16 0, .int .u8 0, .int .u32 0, .int .u8 0, .int .u32 0] 40 (0, 0))) (.cells #[.slice (some ⟨wr.heap.size, 0, none⟩) 1 1] 38 (0, 0))
        rw [hWX, World.size_alloc] at this
        rw [cell_of this 0]
        rfl
      have hru : RowAt (Fc w.heap.size WX) WX (.slice (some ⟨wr.heap.size, 0, none⟩) 1 1) [⟨ch, 0, zeroAa⟩] := ⟨_, 1, rfl, fun e => (by cases e), ⟨Nat.le_refl 1, by decide⟩, fun _ => ⟨wr.heap.size, 0, rfl, ⟨HG.out.2.2.2.size, _, hx0⟩, by omega, fun i hi j x hj => by
        have hi0 : i = 0 := by simpa using hi
        subst hi0
        rw [cell_of hx0]
        rw [show 0 + (0 * 7 + j) = j by omega, List.getElem?_toArray]
        exact hj⟩⟩
      have HX := Lib.hid (And.intro hbx (And.intro hru (And.intro hx1 (And.intro (grow_old HG.out hbx).1 (show w.heap.size ≤ WX.heap.size by have := HG.out.2.2.2.size; omega)))))
      have HWX := Lib.hid hWX
      have HLu : Hid (us.length + 1 ≤ 1000000) := Lib.hid (by have := HL.out; omega)
      clear hbx hsz hx0 hx1 hru hWX hch hb255
      go_upto_region 5 with fail
      go_wp2_with (at_builtin; rw [HWX.out]; refine append_line _ rfl (.tmp 11) (.tmp 18) rfl w.heap.size _ _ us rfl HX.out.2.2.2.1 (wr.heap.size + 1) rfl HX.out.2.2.1 rfl HLu.out HX.out.2.2.2.2 ?_; intro v' w1 hown' hgrow; have HS := Lib.hid (grow_step HG.out HX.out.1 HX.out.2.1 hown' hgrow); clear hown' hgrow)
      go_roundw
      case rel => exact ⟨k + 1, us ++ [.slice (some ⟨wr.heap.size, 0, none⟩) 1 1], by omega, by go_num, Lib.hid (by rw [List.length_append, List.length_singleton, HL.out]), Lib.hid (by rw [HU.out]; exact HS.out)⟩
      case measure => simp [RowKit.intOf]; omega
    · have glt : decide ((k : Int) < (s.size : Int)) = false := by simp; omega
      have hkn : k = s.size := by omega
      have HF := Lib.hid (show GrowT w wr _ us (ofL s) by have := HG.out; rwa [hkn, List.take_of_length_le (by rw [of_len]; exact Nat.le_refl _)] at this)
      clear hkn
      go_wp2
      go_ret
      exact ⟨_, rfl, grow_at HF.out, HF.out.2.2.2⟩
end Go.Proofs.Ytomfeehebkknoaa.Rw
