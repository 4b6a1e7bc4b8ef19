/- Layer 7: the document's All (written by gen_pak.py). -/
import Derived.Test.YtfekjlajagoooaaDoorF7PaJ
namespace Go.Proofs.YtfekjlajagoooaaDoor.P7
open Go.RowKit Par

namespace Par
structure RB (r : RS) (k : Nat) : Prop where
  one : r.one.length ≤ 8
  few : r.parts ≤ 8 → r.one.length + 1 = r.parts
  n : r.n ≤ 9999
  all : r.all.length ≤ 16
  parts : r.parts ≤ k + 1

theorem rb_new : RB rnew 0 := ⟨by decide, by decide, by decide, by decide, by decide⟩
theorem RB.more {r : RS} {k : Nat} (h : RB r k) : RB r (k + 1) := ⟨h.one, h.few, h.n, h.all, by have := h.parts; omega⟩
theorem rb_step {r : RS} {k : Nat} (h : RB r k) (b : Bool) (c : Nat) : RB (rstep b r c) (k + 1) := by
  obtain ⟨ra, ro, rn, ry, rp⟩ := r
  obtain ⟨h1, h2, h3, h4, h5⟩ := h
  simp only at h1 h2 h3 h4 h5
  unfold rstep
  by_cases hc : c ≤ 57
  · simp only [hc, if_true]
    refine ⟨h1, h2, ?_, h4, by show rp ≤ _; omega⟩
    show (if rp ≤ 8 then (if 9999 < 10 * rn + (c - 48) then 9999 else 10 * rn + (c - 48)) else rn) ≤ 9999
    split
    · split <;> omega
    · exact h3
  · simp only [hc, if_false]
    have ho : (if rp ≤ 8 then ro ++ [rn] else ro).length ≤ 8 := by
      split
      · rename_i h; have := h2 h; simp; omega
      · exact h1
    by_cases h59 : c = 59
    · simp only [h59, if_true]
      refine ⟨by simp, by simp, by simp, ?_, by simp⟩
      show (if (ry || !b) && decide (ra.length < 16) then ra ++ [if rp ≤ 8 then ro ++ [rn] else ro] else ra).length ≤ 16
      split
      · rename_i h
        have : ra.length < 16 := by
          rw [Bool.and_eq_true] at h
          simpa using h.2
        simp
        omega
      · exact h4
    · simp only [h59, if_false]
      refine ⟨ho, fun h => ?_, by simp, h4, by show rp + 1 ≤ _; omega⟩
      have h' : rp + 1 ≤ 8 := h
      have := h2 (by omega)
      show (if rp ≤ 8 then ro ++ [rn] else ro).length + 1 = rp + 1
      rw [if_pos (by omega)]
      simp
      omega
theorem rb_comes {r : RS} {k : Nat} (h : RB r k) (c : Nat) : RB (rcomes r c) (k + 1) := by
  unfold rcomes
  split
  · exact rb_step h _ _
  · exact h.more

/-- Where the document's road is behind k rounds. -/
def StK (l : List UInt8) (k : Nat) (r : RS) : Prop := (k ≤ l.length ∧ r = runR rnew (l.take k)) ∨ (k = l.length + 1 ∧ r.all = refV l)
theorem runR_append (r : RS) (l m : List UInt8) : runR r (l ++ m) = runR (runR r l) m := by
  induction l generalizing r with
  | nil => rfl
  | cons b l ih => exact ih _
theorem stk_next {l : List UInt8} {k : Nat} {r : RS} (h : StK l k r) (hk : k < l.length) : StK l (k + 1) (rcomes r l[k].toNat) := by
  rcases h with ⟨_, rfl⟩ | ⟨h, _⟩
  · refine Or.inl ⟨hk, ?_⟩
    rw [List.take_succ_eq_append_getElem hk, runR_append]
    rfl
  · omega
theorem stk_end {l : List UInt8} {r : RS} (h : StK l l.length r) : StK l (l.length + 1) (rstep true r 59) := by
  rcases h with ⟨_, rfl⟩ | ⟨h, _⟩
  · refine Or.inr ⟨rfl, ?_⟩
    rw [List.take_length]
    rfl
  · omega
end Par

theorem one_new (w : World) (v : Value) (t : TypeId) : ∀ j u, [v][j]? = some u → (w.alloc (.cells #[v] t)).cell? ((⟨w.heap.size, 0, none⟩ : Addr).add j) = some u := by
  intro j u hu
  cases j with
  | zero =>
    simp at hu
    subst hu
    rw [add_zero]
    simp
  | succ j => simp at hu

/-- What the document's All answers. -/
def RefPost (w : World) (l : List (List Nat)) (e : Ending) (w' : World) : Prop := ∃ A c, e = .returned (.slice A l.length c) ∧ TabT w' A l ∧ Below w.heap.size w w'

theorem RefM.tab {w0 w : World} {base b : Nat} {all : List (List Nat)} {one : List Nat} {A : Option Addr} {cA g cO : Nat} (h : RefM w0 w base b all one A cA g cO) (hl : ∀ q ∈ all, q.length ≤ 1000) : Tab w w.heap.size A all := by
  obtain ⟨rs, h1, h2⟩ := h.rows
  intro hp
  obtain ⟨ga, ca, e, hge, hlt⟩ := h1.form hp
  injection e with e1 e2 e3
  subst e1
  refine ⟨_, rfl, hlt, fun r hr => ?_⟩
  obtain ⟨A', c, e, hr2⟩ := h2 r hr
  refine ⟨A', c, ?_, ?_, fun j hj => ?_⟩
  · have := World.ownsRow.cells (w := w) h1 (g := ga) rfl r _ e
    exact this
  · have := hl _ (getD_mem all r [] hr)
    show (all.getD r []).length ≤ _
    omega
  · obtain ⟨a', e1, e2, e3⟩ := hr2.row j hj
    exact ⟨a', e1, by have := h.sz; omega, e3⟩

set_option maxRecDepth 100000 in
set_option maxHeartbeats 16000000 in
theorem ref_any (s : ByteArray) (l : List UInt8) (hl : l = s.data.toList) (hs : s.size ≤ 1000000) (w : World) :
    Calls Tryd.prog 40 #[.string s] w (RefPost w (parsV l)) := by
  have hlen : l.length = s.size := by rw [hl]; rfl
  have HL := Lib.hid hl
  have HLen := Lib.hid hlen
  obtain ⟨i0, hi, hz0, hz1, hz2⟩ := info_parts info_int
  have HI := Lib.hid hi; have HZ0 := Lib.hid hz0; have HZ1 := Lib.hid hz1; have HZ2 := Lib.hid hz2
  clear hi hz0 hz1 hz2
  obtain ⟨i1, hi, hz0, hz1, hz2⟩ := info_parts info_row
  have HJ := Lib.hid hi; have HY0 := Lib.hid hz0; have HY1 := Lib.hid hz1; have HY2 := Lib.hid hz2
  clear hi hz0 hz1 hz2 hl hlen
  go_enter Tryd.func40, Tryd.ntmps40
  go_wp2
  go_loopw [3, 4, 5, 6, 7, 8] (fun v3 v4 v5 v6 v7 v8 wr => ∃ (k : Nat) (r : RS) (A : Option Addr) (cA g cO b : Nat), k ≤ s.size + 1 ∧ v8 = .int .i64 k ∧ v3 = .slice A r.all.length cA ∧ v4 = .slice (some ⟨g, 0, none⟩) r.one.length cO ∧ v5 = .int .i64 r.n ∧ v6 = .bool r.any ∧ v7 = .int .i64 r.parts ∧ Hid (RefM w wr w.heap.size b r.all r.one A cA g cO) ∧ Hid (RB r k) ∧ Hid (StK l k r)) (fun _ _ _ _ _ v8 _ => s.size + 1 - (RowKit.intOf v8).toNat)
  case atStart => exact ⟨0, rnew, none, 0, w.heap.size, 0, w.heap.size, Nat.zero_le _, rfl, rfl, rfl, rfl, rfl, rfl, Lib.hid (RefM.start w), Lib.hid rb_new, Lib.hid (Or.inl ⟨Nat.zero_le _, rfl⟩)⟩
  case round =>
    obtain ⟨k, ⟨ra, ro, rn, ry, rp⟩, A, cA, g, cO, b, hk, rfl, rfl, rfl, rfl, rfl, rfl, HM, HB, HS⟩ := hrel
    rename_i wr
    obtain ⟨m1, hm1⟩ : ∃ m1, m1 = ra.length := ⟨_, rfl⟩
    obtain ⟨m2, hm2⟩ : ∃ m2, m2 = ro.length := ⟨_, rfl⟩
    have q1 : m2 ≤ 8 := by rw [hm2]; exact HB.out.one
    have q2 : m1 ≤ 16 := by rw [hm1]; exact HB.out.all
    have q3 : rn ≤ 9999 := HB.out.n
    have q4 : rp ≤ k + 1 := HB.out.parts
    have HM1 := Lib.hid hm1
    have HM2 := Lib.hid hm2
    have HX := HM
    simp only at HX ⊢
    rw [← hm1, ← hm2]
    clear hm1 hm2
    have e1 : (ra.length = m1) := HM1.out.symm
    have e2 : (ro.length = m2) := HM2.out.symm
    have HE1 := Lib.hid e1
    have HE2 := Lib.hid e2
    clear e1 e2 HM1 HM2
    by_cases hlt : k < s.size
    · have hlt' : k < l.length := by rw [HLen.out]; exact hlt
      have hb' : l[k] = s[k] := by have := HL.out; subst this; rfl
      have SN : Hid (StK l (k + 1) (rcomes (⟨ra, ro, rn, ry, rp⟩ : RS) s[k].toNat)) := Lib.hid (by have := stk_next HS.out hlt'; rwa [hb'] at this)
      clear hb'
      have hi0 : decide ((k : Int) ≤ s.size) = true := by simp; omega
      by_cases hc0 : s[k].toNat < 48
      · have d0 : decide ((s[k].toNat : Int) < 48) = true := by simp; omega
        have E : Hid (rcomes (⟨ra, ro, rn, ry, rp⟩ : RS) s[k].toNat = ⟨ra, ro, rn, ry, rp⟩) := Lib.hid (by unfold rcomes; rw [if_neg (by simp [inB]; omega)])
        have HB' := Lib.hid (rb_comes HB.out s[k].toNat)
        have HS' := Lib.hid (SN.out)
        rw [E.out] at HB' HS'
        clear HM HS
        go_wp2
        go_roundw
        case rel => exact ⟨k + 1, ⟨ra, ro, rn, ry, rp⟩, A, cA, g, cO, b, by omega, by go_num, by rw [show (⟨ra, ro, rn, ry, rp⟩ : RS).all.length = m1 from HE1.out], by rw [show (⟨ra, ro, rn, ry, rp⟩ : RS).one.length = m2 from HE2.out], (by show _ = Value.int .i64 ((rn : Nat) : Int); exact congrArg (Value.int .i64) (by omega)), rfl, (by show _ = Value.int .i64 ((rp : Nat) : Int); exact congrArg (Value.int .i64) (by omega)), HX, HB', HS'⟩
        case measure => simp [RowKit.intOf]; omega
      by_cases hc1 : 59 < s[k].toNat
      · have d0 : decide ((s[k].toNat : Int) < 48) = false := by simp; omega
        have d1 : decide ((59 : Int) < s[k].toNat) = true := by simp; omega
        have E : Hid (rcomes (⟨ra, ro, rn, ry, rp⟩ : RS) s[k].toNat = ⟨ra, ro, rn, ry, rp⟩) := Lib.hid (by unfold rcomes; rw [if_neg (by simp [inB]; omega)])
        have HB' := Lib.hid (rb_comes HB.out s[k].toNat)
        have HS' := Lib.hid (SN.out)
        rw [E.out] at HB' HS'
        clear HM HS
        go_wp2
        go_roundw
        case rel => exact ⟨k + 1, ⟨ra, ro, rn, ry, rp⟩, A, cA, g, cO, b, by omega, by go_num, by rw [show (⟨ra, ro, rn, ry, rp⟩ : RS).all.length = m1 from HE1.out], by rw [show (⟨ra, ro, rn, ry, rp⟩ : RS).one.length = m2 from HE2.out], (by show _ = Value.int .i64 ((rn : Nat) : Int); exact congrArg (Value.int .i64) (by omega)), rfl, (by show _ = Value.int .i64 ((rp : Nat) : Int); exact congrArg (Value.int .i64) (by omega)), HX, HB', HS'⟩
        case measure => simp [RowKit.intOf]; omega
      have d0 : decide ((s[k].toNat : Int) < 48) = false := by simp; omega
      have d1 : decide ((59 : Int) < s[k].toNat) = false := by simp; omega
      by_cases hc2 : s[k].toNat ≤ 57
      · have d2 : decide ((s[k].toNat : Int) ≤ 57) = true := by simp; omega
        by_cases hp8 : rp ≤ 8
        · have d3 : decide ((rp : Int) ≤ 8) = true := by simp; omega
          by_cases h99 : 9999 < 10 * rn + (s[k].toNat - 48)
          · have d4 : decide ((9999 : Int) < 10 * (rn : Int) + s[k].toNat - 48) = true := by simp; omega
            have E : Hid (rcomes (⟨ra, ro, rn, ry, rp⟩ : RS) s[k].toNat = ⟨ra, ro, 9999, true, rp⟩) := Lib.hid (by unfold rcomes; rw [if_pos (by simp [inB]; omega)]; simp only [rstep, hc2, if_true, hp8, h99, Bool.not_false, Bool.or_true])
            have HB' := Lib.hid (rb_comes HB.out s[k].toNat)
            have HS' := Lib.hid (SN.out)
            rw [E.out] at HB' HS'
            clear HM HS
            go_wp2
            go_roundw
            case rel => exact ⟨k + 1, ⟨ra, ro, 9999, true, rp⟩, A, cA, g, cO, b, by omega, by go_num, by rw [show (⟨ra, ro, 9999, true, rp⟩ : RS).all.length = m1 from HE1.out], by rw [show (⟨ra, ro, 9999, true, rp⟩ : RS).one.length = m2 from HE2.out], (by show _ = Value.int .i64 ((9999 : Nat) : Int); exact congrArg (Value.int .i64) (by omega)), rfl, (by show _ = Value.int .i64 ((rp : Nat) : Int); exact congrArg (Value.int .i64) (by omega)), HX, HB', HS'⟩
            case measure => simp [RowKit.intOf]; omega
          · have d4 : decide ((9999 : Int) < 10 * (rn : Int) + s[k].toNat - 48) = false := by simp; omega
            have E : Hid (rcomes (⟨ra, ro, rn, ry, rp⟩ : RS) s[k].toNat = ⟨ra, ro, 10 * rn + (s[k].toNat - 48), true, rp⟩) := Lib.hid (by unfold rcomes; rw [if_pos (by simp [inB]; omega)]; simp only [rstep, hc2, if_true, hp8, h99, if_false, Bool.not_false, Bool.or_true])
            have HB' := Lib.hid (rb_comes HB.out s[k].toNat)
            have HS' := Lib.hid (SN.out)
            rw [E.out] at HB' HS'
            clear HM HS
            go_wp2
            go_roundw
            case rel => exact ⟨k + 1, ⟨ra, ro, 10 * rn + (s[k].toNat - 48), true, rp⟩, A, cA, g, cO, b, by omega, by go_num, by rw [show (⟨ra, ro, 10 * rn + (s[k].toNat - 48), true, rp⟩ : RS).all.length = m1 from HE1.out], by rw [show (⟨ra, ro, 10 * rn + (s[k].toNat - 48), true, rp⟩ : RS).one.length = m2 from HE2.out], (by show _ = Value.int .i64 ((10 * rn + (s[k].toNat - 48) : Nat) : Int); exact congrArg (Value.int .i64) (by omega)), rfl, (by show _ = Value.int .i64 ((rp : Nat) : Int); exact congrArg (Value.int .i64) (by omega)), HX, HB', HS'⟩
            case measure => simp [RowKit.intOf]; omega
        · have d3 : decide ((rp : Int) ≤ 8) = false := by simp; omega
          have E : Hid (rcomes (⟨ra, ro, rn, ry, rp⟩ : RS) s[k].toNat = ⟨ra, ro, rn, true, rp⟩) := Lib.hid (by unfold rcomes; rw [if_pos (by simp [inB]; omega)]; simp only [rstep, hc2, if_true, hp8, if_false, Bool.not_false, Bool.or_true])
          have HB' := Lib.hid (rb_comes HB.out s[k].toNat)
          have HS' := Lib.hid (SN.out)
          rw [E.out] at HB' HS'
          clear HM HS
          go_wp2
          go_roundw
          case rel => exact ⟨k + 1, ⟨ra, ro, rn, true, rp⟩, A, cA, g, cO, b, by omega, by go_num, by rw [show (⟨ra, ro, rn, true, rp⟩ : RS).all.length = m1 from HE1.out], by rw [show (⟨ra, ro, rn, true, rp⟩ : RS).one.length = m2 from HE2.out], (by show _ = Value.int .i64 ((rn : Nat) : Int); exact congrArg (Value.int .i64) (by omega)), rfl, (by show _ = Value.int .i64 ((rp : Nat) : Int); exact congrArg (Value.int .i64) (by omega)), HX, HB', HS'⟩
          case measure => simp [RowKit.intOf]; omega
      have d2 : decide ((s[k].toNat : Int) ≤ 57) = false := by simp; omega
      by_cases hc3 : s[k].toNat = 58
      · have d5 : ((s[k].toNat : Int) == 59) = false := by simp; omega
        by_cases hp8 : rp ≤ 8
        · have d3 : decide ((rp : Int) ≤ 8) = true := by simp; omega
          have E : Hid (rcomes (⟨ra, ro, rn, ry, rp⟩ : RS) s[k].toNat = ⟨ra, ro ++ [rn], 0, true, rp + 1⟩) := Lib.hid (by unfold rcomes; rw [if_pos (by simp [inB]; omega)]; rw [hc3]; simp [rstep, hp8])
          have HB' := Lib.hid (rb_comes HB.out s[k].toNat)
          have HS' := Lib.hid (SN.out)
          rw [E.out] at HB' HS'
          clear HM HS
          go_wp2_with (at_builtin; refine wpList_append_own _ rfl (.tmp 48) (.tmp 50) 47 rfl b 3 i0 (.int .i64 0) 1 8 Tryd.underlying47 HI.out HZ0.out HZ1.out HZ2.out rfl (by decide) _ _ _ rfl (by have := (HX.out.alloc (.cells #[.int .i64 rn] 3)).own; rw [HE2.out] at this; exact this) ⟨wr.heap.size, 0, none⟩ 1 1 [.int .i64 rn] rfl rfl ?d1 ?d2 ?d3 ?d4 ?d5 ?_)
          case d1 => exact one_new wr _ _
          case d2 => intro u hu; simp at hu; subst hu; rfl
          case d3 => unfold maxLen; omega
          case d4 => omega
          case d5 => have := HX.out.sz; simp; omega
          intro v' w2 hown hg _
          obtain ⟨g2, c2, rfl, hM2⟩ := HX.out.put rn (by rw [HE2.out]; exact hown) hg
          have HX2 := Lib.hid hM2
          have HE3 : Hid ((ro ++ [rn]).length = m2 + 1) := Lib.hid (by rw [List.length_append, HE2.out]; rfl)
          rw [HE2.out]
          clear hown hg hM2 HX
          go_wp2
          go_roundw
          case rel => exact ⟨k + 1, ⟨ra, ro ++ [rn], 0, true, rp + 1⟩, A, cA, g2, c2, b, by omega, by go_num, by rw [show (⟨ra, ro ++ [rn], 0, true, rp + 1⟩ : RS).all.length = m1 from HE1.out], by rw [show (⟨ra, ro ++ [rn], 0, true, rp + 1⟩ : RS).one.length = (m2 + 1) from HE3.out], (by show _ = Value.int .i64 ((0 : Nat) : Int); exact congrArg (Value.int .i64) (by omega)), rfl, (by show _ = Value.int .i64 ((rp + 1 : Nat) : Int); exact congrArg (Value.int .i64) (by omega)), HX2, HB', HS'⟩
          case measure => simp [RowKit.intOf]; omega
        · have d3 : decide ((rp : Int) ≤ 8) = false := by simp; omega
          have E : Hid (rcomes (⟨ra, ro, rn, ry, rp⟩ : RS) s[k].toNat = ⟨ra, ro, 0, true, rp + 1⟩) := Lib.hid (by unfold rcomes; rw [if_pos (by simp [inB]; omega)]; rw [hc3]; simp [rstep, hp8])
          have HB' := Lib.hid (rb_comes HB.out s[k].toNat)
          have HS' := Lib.hid (SN.out)
          rw [E.out] at HB' HS'
          clear HM HS
          go_wp2
          go_roundw
          case rel => exact ⟨k + 1, ⟨ra, ro, 0, true, rp + 1⟩, A, cA, g, cO, b, by omega, by go_num, by rw [show (⟨ra, ro, 0, true, rp + 1⟩ : RS).all.length = m1 from HE1.out], by rw [show (⟨ra, ro, 0, true, rp + 1⟩ : RS).one.length = m2 from HE2.out], (by show _ = Value.int .i64 ((0 : Nat) : Int); exact congrArg (Value.int .i64) (by omega)), rfl, (by show _ = Value.int .i64 ((rp + 1 : Nat) : Int); exact congrArg (Value.int .i64) (by omega)), HX, HB', HS'⟩
          case measure => simp [RowKit.intOf]; omega
      have hc4 : s[k].toNat = 59 := by omega
      have d5 : ((s[k].toNat : Int) == 59) = true := by simp; omega
      by_cases hp8 : rp ≤ 8
      · have d3 : decide ((rp : Int) ≤ 8) = true := by simp; omega
        by_cases hm16 : m1 < 16
        · have d6 : decide ((m1 : Int) < 16) = true := by simp; omega
          have hra : ra.length < 16 := by rw [HE1.out]; exact hm16
          have E : Hid (rcomes (⟨ra, ro, rn, ry, rp⟩ : RS) s[k].toNat = ⟨ra ++ [ro ++ [rn]], [], 0, true, 1⟩) := Lib.hid (by unfold rcomes; rw [if_pos (by simp [inB]; omega)]; rw [hc4]; simp [rstep, hp8, hra])
          have HB' := Lib.hid (rb_comes HB.out s[k].toNat)
          have HS' := Lib.hid (SN.out)
          rw [E.out] at HB' HS'
          clear HM HS
          go_wp2_with (at_builtin; refine wpList_append_own _ rfl (.tmp 48) (.tmp 50) 47 rfl b 3 i0 (.int .i64 0) 1 8 Tryd.underlying47 HI.out HZ0.out HZ1.out HZ2.out rfl (by decide) _ _ _ rfl (by have := (HX.out.alloc (.cells #[.int .i64 rn] 3)).own; rw [HE2.out] at this; exact this) ⟨wr.heap.size, 0, none⟩ 1 1 [.int .i64 rn] rfl rfl ?d1 ?d2 ?d3 ?d4 ?d5 ?_)
          case d1 => exact one_new wr _ _
          case d2 => intro u hu; simp at hu; subst hu; rfl
          case d3 => unfold maxLen; omega
          case d4 => omega
          case d5 => have := HX.out.sz; simp; omega
          intro v' w2 hown hg _
          obtain ⟨g2, c2, rfl, hM2⟩ := HX.out.put rn (by rw [HE2.out]; exact hown) hg
          have HX2 := Lib.hid hM2
          have HE3 : Hid ((ro ++ [rn]).length = m2 + 1) := Lib.hid (by rw [List.length_append, HE2.out]; rfl)
          rw [HE2.out]
          clear hown hg hM2 HX
          obtain ⟨rs, hrs0, hrs⟩ := HX2.out.rows
          have hrl : rs.length = ra.length := by rw [hrs0.1, Nat.mul_one]
          have HRS := Lib.hid hrs; have HRL := Lib.hid hrl
          have HR0 : Hid ((w2.alloc (.cells #[.slice (some ⟨g2, 0, none⟩) (m2 + 1) c2] 47)).ownsRow w.heap.size 47 1 (.slice A m1 cA) m1 rs) := Lib.hid (by rw [HE1.out] at hrs0; exact hrs0.alloc _)
          clear hrs0 hrs hrl
          go_wp2_with (at_builtin; refine wpList_append_own _ rfl (.tmp 62) (.tmp 64) 29 rfl w.heap.size 47 i1 (.slice none 0 0) 1 24 Tryd.underlying29 HJ.out HY0.out HY1.out HY2.out rfl (by decide) _ _ _ rfl HR0.out ⟨w2.heap.size, 0, none⟩ 1 1 [.slice (some ⟨g2, 0, none⟩) (m2 + 1) c2] rfl rfl ?f1 ?f2 ?f3 ?f4 ?f5 ?_)
          case f1 => exact one_new w2 _ _
          case f2 => intro u hu; simp at hu; subst hu; rfl
          case f3 => unfold maxLen; omega
          case f4 => omega
          case f5 => have := HX2.out.sz; have := HX2.out.bb; simp; omega
          intro v' w3 hown hg _
          obtain ⟨g3, c3, rfl, hM3⟩ := HX2.out.push HRS.out HRL.out (by rw [HE1.out, HE3.out]; exact hown) (by rw [HE1.out]; exact hg)
          have HX3 := Lib.hid hM3
          have HE4 : Hid ((ra ++ [(ro ++ [rn])]).length = m1 + 1) := Lib.hid (by rw [List.length_append, HE1.out]; rfl)
          rw [HE1.out]
          clear hown hg hM3 HX2 HR0
          go_wp2
          go_roundw
          case rel => exact ⟨k + 1, ⟨ra ++ [ro ++ [rn]], [], 0, true, 1⟩, some ⟨g3, 0, none⟩, c3, w3.heap.size, 0, w3.heap.size, by omega, by go_num, by rw [show (⟨ra ++ [ro ++ [rn]], [], 0, true, 1⟩ : RS).all.length = m1 + 1 from HE4.out], rfl, rfl, rfl, rfl, HX3, HB', HS'⟩
          case measure => simp [RowKit.intOf]; omega
        · have d6 : decide ((m1 : Int) < 16) = false := by simp; omega
          have hra : ¬ ra.length < 16 := by rw [HE1.out]; exact hm16
          have E : Hid (rcomes (⟨ra, ro, rn, ry, rp⟩ : RS) s[k].toNat = ⟨ra, [], 0, true, 1⟩) := Lib.hid (by unfold rcomes; rw [if_pos (by simp [inB]; omega)]; rw [hc4]; simp [rstep, hra])
          have HB' := Lib.hid (rb_comes HB.out s[k].toNat)
          have HS' := Lib.hid (SN.out)
          rw [E.out] at HB' HS'
          clear HM HS
          go_wp2_with (at_builtin; refine wpList_append_own _ rfl (.tmp 48) (.tmp 50) 47 rfl b 3 i0 (.int .i64 0) 1 8 Tryd.underlying47 HI.out HZ0.out HZ1.out HZ2.out rfl (by decide) _ _ _ rfl (by have := (HX.out.alloc (.cells #[.int .i64 rn] 3)).own; rw [HE2.out] at this; exact this) ⟨wr.heap.size, 0, none⟩ 1 1 [.int .i64 rn] rfl rfl ?d1 ?d2 ?d3 ?d4 ?d5 ?_)
          case d1 => exact one_new wr _ _
          case d2 => intro u hu; simp at hu; subst hu; rfl
          case d3 => unfold maxLen; omega
          case d4 => omega
          case d5 => have := HX.out.sz; simp; omega
          intro v' w2 hown hg _
          obtain ⟨g2, c2, rfl, hM2⟩ := HX.out.put rn (by rw [HE2.out]; exact hown) hg
          have HX2 := Lib.hid hM2
          have HE3 : Hid ((ro ++ [rn]).length = m2 + 1) := Lib.hid (by rw [List.length_append, HE2.out]; rfl)
          rw [HE2.out]
          clear hown hg hM2 HX
          go_wp2
          go_roundw
          case rel => exact ⟨k + 1, ⟨ra, [], 0, true, 1⟩, A, cA, w2.heap.size, 0, w2.heap.size, by omega, by go_num, by rw [show (⟨ra, [], 0, true, 1⟩ : RS).all.length = m1 from HE1.out], rfl, rfl, rfl, rfl, Lib.hid HX2.out.fresh, HB', HS'⟩
          case measure => simp [RowKit.intOf]; omega
      · have d3 : decide ((rp : Int) ≤ 8) = false := by simp; omega
        by_cases hm16 : m1 < 16
        · have d6 : decide ((m1 : Int) < 16) = true := by simp; omega
          have hra : ra.length < 16 := by rw [HE1.out]; exact hm16
          have E : Hid (rcomes (⟨ra, ro, rn, ry, rp⟩ : RS) s[k].toNat = ⟨ra ++ [ro], [], 0, true, 1⟩) := Lib.hid (by unfold rcomes; rw [if_pos (by simp [inB]; omega)]; rw [hc4]; simp [rstep, hp8, hra])
          have HB' := Lib.hid (rb_comes HB.out s[k].toNat)
          have HS' := Lib.hid (SN.out)
          rw [E.out] at HB' HS'
          clear HM HS
          obtain ⟨rs, hrs0, hrs⟩ := HX.out.rows
          have hrl : rs.length = ra.length := by rw [hrs0.1, Nat.mul_one]
          have HRS := Lib.hid hrs; have HRL := Lib.hid hrl
          have HR0 : Hid ((wr.alloc (.cells #[.slice (some ⟨g, 0, none⟩) m2 cO] 47)).ownsRow w.heap.size 47 1 (.slice A m1 cA) m1 rs) := Lib.hid (by rw [HE1.out] at hrs0; exact hrs0.alloc _)
          clear hrs0 hrs hrl
          go_wp2_with (at_builtin; refine wpList_append_own _ rfl (.tmp 62) (.tmp 64) 29 rfl w.heap.size 47 i1 (.slice none 0 0) 1 24 Tryd.underlying29 HJ.out HY0.out HY1.out HY2.out rfl (by decide) _ _ _ rfl HR0.out ⟨wr.heap.size, 0, none⟩ 1 1 [.slice (some ⟨g, 0, none⟩) m2 cO] rfl rfl ?f1 ?f2 ?f3 ?f4 ?f5 ?_)
          case f1 => exact one_new wr _ _
          case f2 => intro u hu; simp at hu; subst hu; rfl
          case f3 => unfold maxLen; omega
          case f4 => omega
          case f5 => have := HX.out.sz; have := HX.out.bb; simp; omega
          intro v' w3 hown hg _
          obtain ⟨g3, c3, rfl, hM3⟩ := HX.out.push HRS.out HRL.out (by rw [HE1.out, HE2.out]; exact hown) (by rw [HE1.out]; exact hg)
          have HX3 := Lib.hid hM3
          have HE4 : Hid ((ra ++ [ro]).length = m1 + 1) := Lib.hid (by rw [List.length_append, HE1.out]; rfl)
          rw [HE1.out]
          clear hown hg hM3 HX HR0
          go_wp2
          go_roundw
          case rel => exact ⟨k + 1, ⟨ra ++ [ro], [], 0, true, 1⟩, some ⟨g3, 0, none⟩, c3, w3.heap.size, 0, w3.heap.size, by omega, by go_num, by rw [show (⟨ra ++ [ro], [], 0, true, 1⟩ : RS).all.length = m1 + 1 from HE4.out], rfl, rfl, rfl, rfl, HX3, HB', HS'⟩
          case measure => simp [RowKit.intOf]; omega
        · have d6 : decide ((m1 : Int) < 16) = false := by simp; omega
          have hra : ¬ ra.length < 16 := by rw [HE1.out]; exact hm16
          have E : Hid (rcomes (⟨ra, ro, rn, ry, rp⟩ : RS) s[k].toNat = ⟨ra, [], 0, true, 1⟩) := Lib.hid (by unfold rcomes; rw [if_pos (by simp [inB]; omega)]; rw [hc4]; simp [rstep, hra])
          have HB' := Lib.hid (rb_comes HB.out s[k].toNat)
          have HS' := Lib.hid (SN.out)
          rw [E.out] at HB' HS'
          clear HM HS
          go_wp2
          go_roundw
          case rel => exact ⟨k + 1, ⟨ra, [], 0, true, 1⟩, A, cA, wr.heap.size, 0, wr.heap.size, by omega, by go_num, by rw [show (⟨ra, [], 0, true, 1⟩ : RS).all.length = m1 from HE1.out], rfl, rfl, rfl, rfl, Lib.hid HX.out.fresh, HB', HS'⟩
          case measure => simp [RowKit.intOf]; omega
    by_cases hke : k = s.size
    · have hks : k = l.length := by rw [HLen.out]; exact hke
      have hi0 : decide ((k : Int) ≤ s.size) = true := by simp; omega
      have hi1 : decide ((k : Int) < s.size) = false := by simp; omega
      have HKS : Hid (k = l.length) := Lib.hid hks
      have hkle : k ≤ s.size := by omega
      clear hke hks
      cases ry with
      | false =>
        by_cases hp8 : rp ≤ 8
        · have d3 : decide ((rp : Int) ≤ 8) = true := by simp; omega
          have E : Hid (rstep true (⟨ra, ro, rn, false, rp⟩ : RS) 59 = ⟨ra, [], 0, false, 1⟩) := Lib.hid (by simp [rstep])
          have HB' := Lib.hid (rb_step HB.out true 59)
          have HS' := Lib.hid (stk_end (l := l) (r := ⟨ra, ro, rn, false, rp⟩) (by have := HS.out; rwa [HKS.out] at this))
          rw [← HKS.out] at HS'
          rw [E.out] at HB' HS'
          clear HM HS
          go_wp2_with (at_builtin; refine wpList_append_own _ rfl (.tmp 48) (.tmp 50) 47 rfl b 3 i0 (.int .i64 0) 1 8 Tryd.underlying47 HI.out HZ0.out HZ1.out HZ2.out rfl (by decide) _ _ _ rfl (by have := (HX.out.alloc (.cells #[.int .i64 rn] 3)).own; rw [HE2.out] at this; exact this) ⟨wr.heap.size, 0, none⟩ 1 1 [.int .i64 rn] rfl rfl ?d1 ?d2 ?d3 ?d4 ?d5 ?_)
          case d1 => exact one_new wr _ _
          case d2 => intro u hu; simp at hu; subst hu; rfl
          case d3 => unfold maxLen; omega
          case d4 => omega
          case d5 => have := HX.out.sz; simp; omega
          intro v' w2 hown hg _
          obtain ⟨g2, c2, rfl, hM2⟩ := HX.out.put rn (by rw [HE2.out]; exact hown) hg
          have HX2 := Lib.hid hM2
          have HE3 : Hid ((ro ++ [rn]).length = m2 + 1) := Lib.hid (by rw [List.length_append, HE2.out]; rfl)
          rw [HE2.out]
          clear hown hg hM2 HX
          go_wp2
          go_roundw
          case rel => exact ⟨k + 1, ⟨ra, [], 0, false, 1⟩, A, cA, w2.heap.size, 0, w2.heap.size, by omega, by go_num, by rw [show (⟨ra, [], 0, false, 1⟩ : RS).all.length = m1 from HE1.out], rfl, rfl, rfl, rfl, Lib.hid HX2.out.fresh, HB', HS'⟩
          case measure => simp [RowKit.intOf]; omega
        · have d3 : decide ((rp : Int) ≤ 8) = false := by simp; omega
          have E : Hid (rstep true (⟨ra, ro, rn, false, rp⟩ : RS) 59 = ⟨ra, [], 0, false, 1⟩) := Lib.hid (by simp [rstep])
          have HB' := Lib.hid (rb_step HB.out true 59)
          have HS' := Lib.hid (stk_end (l := l) (r := ⟨ra, ro, rn, false, rp⟩) (by have := HS.out; rwa [HKS.out] at this))
          rw [← HKS.out] at HS'
          rw [E.out] at HB' HS'
          clear HM HS
          go_wp2
          go_roundw
          case rel => exact ⟨k + 1, ⟨ra, [], 0, false, 1⟩, A, cA, wr.heap.size, 0, wr.heap.size, by omega, by go_num, by rw [show (⟨ra, [], 0, false, 1⟩ : RS).all.length = m1 from HE1.out], rfl, rfl, rfl, rfl, Lib.hid HX.out.fresh, HB', HS'⟩
          case measure => simp [RowKit.intOf]; omega
      | true =>
        by_cases hp8 : rp ≤ 8
        · have d3 : decide ((rp : Int) ≤ 8) = true := by simp; omega
          by_cases hm16 : m1 < 16
          · have d6 : decide ((m1 : Int) < 16) = true := by simp; omega
            have hra : ra.length < 16 := by rw [HE1.out]; exact hm16
            have E : Hid (rstep true (⟨ra, ro, rn, true, rp⟩ : RS) 59 = ⟨ra ++ [ro ++ [rn]], [], 0, true, 1⟩) := Lib.hid (by simp [rstep, hp8, hra])
            have HB' := Lib.hid (rb_step HB.out true 59)
            have HS' := Lib.hid (stk_end (l := l) (r := ⟨ra, ro, rn, true, rp⟩) (by have := HS.out; rwa [HKS.out] at this))
            rw [← HKS.out] at HS'
            rw [E.out] at HB' HS'
            clear HM HS
            go_wp2_with (at_builtin; refine wpList_append_own _ rfl (.tmp 48) (.tmp 50) 47 rfl b 3 i0 (.int .i64 0) 1 8 Tryd.underlying47 HI.out HZ0.out HZ1.out HZ2.out rfl (by decide) _ _ _ rfl (by have := (HX.out.alloc (.cells #[.int .i64 rn] 3)).own; rw [HE2.out] at this; exact this) ⟨wr.heap.size, 0, none⟩ 1 1 [.int .i64 rn] rfl rfl ?d1 ?d2 ?d3 ?d4 ?d5 ?_)
            case d1 => exact one_new wr _ _
            case d2 => intro u hu; simp at hu; subst hu; rfl
            case d3 => unfold maxLen; omega
            case d4 => omega
            case d5 => have := HX.out.sz; simp; omega
            intro v' w2 hown hg _
            obtain ⟨g2, c2, rfl, hM2⟩ := HX.out.put rn (by rw [HE2.out]; exact hown) hg
            have HX2 := Lib.hid hM2
            have HE3 : Hid ((ro ++ [rn]).length = m2 + 1) := Lib.hid (by rw [List.length_append, HE2.out]; rfl)
            rw [HE2.out]
            clear hown hg hM2 HX
            obtain ⟨rs, hrs0, hrs⟩ := HX2.out.rows
            have hrl : rs.length = ra.length := by rw [hrs0.1, Nat.mul_one]
            have HRS := Lib.hid hrs; have HRL := Lib.hid hrl
            have HR0 : Hid ((w2.alloc (.cells #[.slice (some ⟨g2, 0, none⟩) (m2 + 1) c2] 47)).ownsRow w.heap.size 47 1 (.slice A m1 cA) m1 rs) := Lib.hid (by rw [HE1.out] at hrs0; exact hrs0.alloc _)
            clear hrs0 hrs hrl
            go_wp2_with (at_builtin; refine wpList_append_own _ rfl (.tmp 62) (.tmp 64) 29 rfl w.heap.size 47 i1 (.slice none 0 0) 1 24 Tryd.underlying29 HJ.out HY0.out HY1.out HY2.out rfl (by decide) _ _ _ rfl HR0.out ⟨w2.heap.size, 0, none⟩ 1 1 [.slice (some ⟨g2, 0, none⟩) (m2 + 1) c2] rfl rfl ?f1 ?f2 ?f3 ?f4 ?f5 ?_)
            case f1 => exact one_new w2 _ _
            case f2 => intro u hu; simp at hu; subst hu; rfl
            case f3 => unfold maxLen; omega
            case f4 => omega
            case f5 => have := HX2.out.sz; have := HX2.out.bb; simp; omega
            intro v' w3 hown hg _
            obtain ⟨g3, c3, rfl, hM3⟩ := HX2.out.push HRS.out HRL.out (by rw [HE1.out, HE3.out]; exact hown) (by rw [HE1.out]; exact hg)
            have HX3 := Lib.hid hM3
            have HE4 : Hid ((ra ++ [(ro ++ [rn])]).length = m1 + 1) := Lib.hid (by rw [List.length_append, HE1.out]; rfl)
            rw [HE1.out]
            clear hown hg hM3 HX2 HR0
            go_wp2
            go_roundw
            case rel => exact ⟨k + 1, ⟨ra ++ [ro ++ [rn]], [], 0, true, 1⟩, some ⟨g3, 0, none⟩, c3, w3.heap.size, 0, w3.heap.size, by omega, by go_num, by rw [show (⟨ra ++ [ro ++ [rn]], [], 0, true, 1⟩ : RS).all.length = m1 + 1 from HE4.out], rfl, rfl, rfl, rfl, HX3, HB', HS'⟩
            case measure => simp [RowKit.intOf]; omega
          · have d6 : decide ((m1 : Int) < 16) = false := by simp; omega
            have hra : ¬ ra.length < 16 := by rw [HE1.out]; exact hm16
            have E : Hid (rstep true (⟨ra, ro, rn, true, rp⟩ : RS) 59 = ⟨ra, [], 0, true, 1⟩) := Lib.hid (by simp [rstep, hra])
            have HB' := Lib.hid (rb_step HB.out true 59)
            have HS' := Lib.hid (stk_end (l := l) (r := ⟨ra, ro, rn, true, rp⟩) (by have := HS.out; rwa [HKS.out] at this))
            rw [← HKS.out] at HS'
            rw [E.out] at HB' HS'
            clear HM HS
            go_wp2_with (at_builtin; refine wpList_append_own _ rfl (.tmp 48) (.tmp 50) 47 rfl b 3 i0 (.int .i64 0) 1 8 Tryd.underlying47 HI.out HZ0.out HZ1.out HZ2.out rfl (by decide) _ _ _ rfl (by have := (HX.out.alloc (.cells #[.int .i64 rn] 3)).own; rw [HE2.out] at this; exact this) ⟨wr.heap.size, 0, none⟩ 1 1 [.int .i64 rn] rfl rfl ?d1 ?d2 ?d3 ?d4 ?d5 ?_)
            case d1 => exact one_new wr _ _
            case d2 => intro u hu; simp at hu; subst hu; rfl
            case d3 => unfold maxLen; omega
            case d4 => omega
            case d5 => have := HX.out.sz; simp; omega
            intro v' w2 hown hg _
            obtain ⟨g2, c2, rfl, hM2⟩ := HX.out.put rn (by rw [HE2.out]; exact hown) hg
            have HX2 := Lib.hid hM2
            have HE3 : Hid ((ro ++ [rn]).length = m2 + 1) := Lib.hid (by rw [List.length_append, HE2.out]; rfl)
            rw [HE2.out]
            clear hown hg hM2 HX
            go_wp2
            go_roundw
            case rel => exact ⟨k + 1, ⟨ra, [], 0, true, 1⟩, A, cA, w2.heap.size, 0, w2.heap.size, by omega, by go_num, by rw [show (⟨ra, [], 0, true, 1⟩ : RS).all.length = m1 from HE1.out], rfl, rfl, rfl, rfl, Lib.hid HX2.out.fresh, HB', HS'⟩
            case measure => simp [RowKit.intOf]; omega
        · have d3 : decide ((rp : Int) ≤ 8) = false := by simp; omega
          by_cases hm16 : m1 < 16
          · have d6 : decide ((m1 : Int) < 16) = true := by simp; omega
            have hra : ra.length < 16 := by rw [HE1.out]; exact hm16
            have E : Hid (rstep true (⟨ra, ro, rn, true, rp⟩ : RS) 59 = ⟨ra ++ [ro], [], 0, true, 1⟩) := Lib.hid (by simp [rstep, hp8, hra])
            have HB' := Lib.hid (rb_step HB.out true 59)
            have HS' := Lib.hid (stk_end (l := l) (r := ⟨ra, ro, rn, true, rp⟩) (by have := HS.out; rwa [HKS.out] at this))
            rw [← HKS.out] at HS'
            rw [E.out] at HB' HS'
            clear HM HS
            obtain ⟨rs, hrs0, hrs⟩ := HX.out.rows
            have hrl : rs.length = ra.length := by rw [hrs0.1, Nat.mul_one]
            have HRS := Lib.hid hrs; have HRL := Lib.hid hrl
            have HR0 : Hid ((wr.alloc (.cells #[.slice (some ⟨g, 0, none⟩) m2 cO] 47)).ownsRow w.heap.size 47 1 (.slice A m1 cA) m1 rs) := Lib.hid (by rw [HE1.out] at hrs0; exact hrs0.alloc _)
            clear hrs0 hrs hrl
            go_wp2_with (at_builtin; refine wpList_append_own _ rfl (.tmp 62) (.tmp 64) 29 rfl w.heap.size 47 i1 (.slice none 0 0) 1 24 Tryd.underlying29 HJ.out HY0.out HY1.out HY2.out rfl (by decide) _ _ _ rfl HR0.out ⟨wr.heap.size, 0, none⟩ 1 1 [.slice (some ⟨g, 0, none⟩) m2 cO] rfl rfl ?f1 ?f2 ?f3 ?f4 ?f5 ?_)
            case f1 => exact one_new wr _ _
            case f2 => intro u hu; simp at hu; subst hu; rfl
            case f3 => unfold maxLen; omega
            case f4 => omega
            case f5 => have := HX.out.sz; have := HX.out.bb; simp; omega
            intro v' w3 hown hg _
            obtain ⟨g3, c3, rfl, hM3⟩ := HX.out.push HRS.out HRL.out (by rw [HE1.out, HE2.out]; exact hown) (by rw [HE1.out]; exact hg)
            have HX3 := Lib.hid hM3
            have HE4 : Hid ((ra ++ [ro]).length = m1 + 1) := Lib.hid (by rw [List.length_append, HE1.out]; rfl)
            rw [HE1.out]
            clear hown hg hM3 HX HR0
            go_wp2
            go_roundw
            case rel => exact ⟨k + 1, ⟨ra ++ [ro], [], 0, true, 1⟩, some ⟨g3, 0, none⟩, c3, w3.heap.size, 0, w3.heap.size, by omega, by go_num, by rw [show (⟨ra ++ [ro], [], 0, true, 1⟩ : RS).all.length = m1 + 1 from HE4.out], rfl, rfl, rfl, rfl, HX3, HB', HS'⟩
            case measure => simp [RowKit.intOf]; omega
          · have d6 : decide ((m1 : Int) < 16) = false := by simp; omega
            have hra : ¬ ra.length < 16 := by rw [HE1.out]; exact hm16
            have E : Hid (rstep true (⟨ra, ro, rn, true, rp⟩ : RS) 59 = ⟨ra, [], 0, true, 1⟩) := Lib.hid (by simp [rstep, hra])
            have HB' := Lib.hid (rb_step HB.out true 59)
            have HS' := Lib.hid (stk_end (l := l) (r := ⟨ra, ro, rn, true, rp⟩) (by have := HS.out; rwa [HKS.out] at this))
            rw [← HKS.out] at HS'
            rw [E.out] at HB' HS'
            clear HM HS
            go_wp2
            go_roundw
            case rel => exact ⟨k + 1, ⟨ra, [], 0, true, 1⟩, A, cA, wr.heap.size, 0, wr.heap.size, by omega, by go_num, by rw [show (⟨ra, [], 0, true, 1⟩ : RS).all.length = m1 from HE1.out], rfl, rfl, rfl, rfl, Lib.hid HX.out.fresh, HB', HS'⟩
            case measure => simp [RowKit.intOf]; omega
    · have hi0 : decide ((k : Int) ≤ s.size) = false := by simp; omega
      have HT : Hid (ra = parsV l) := Lib.hid (by
        rcases HS.out with ⟨h, _⟩ | ⟨_, h⟩
        · rw [HLen.out] at h
          omega
        · exact h.trans (ref_pars l))
      go_wp2
      go_ret
      have hx := HX.out
      have h1 := HE1.out
      rw [HT.out] at hx h1
      refine ⟨A, cA, by rw [h1]; rfl, hx.tabT, hx.old⟩
end Go.Proofs.YtfekjlajagoooaaDoor.P7
