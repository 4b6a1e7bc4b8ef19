/- Layer 11: the law's do. -/
import Derived.Test.YthpnmhllgjibgaaRwN
set_option linter.unusedVariables false
namespace Go.Proofs.Ythpnmhllgjibgaa.Rw
open Go.RowKit

/-- What an act makes of a row. -/
def doV (l : List Ce) (c : Ac) : List Ce := if c.d = 0 then (if fitsV l.length c.x c.wide then wriV l c.x c.r c.wide c.a else []) else if c.d = 1 then insV l c.x c.n c.a else if c.d = 2 then delV l c.x c.n c.a else if c.d = 3 then eraV l c.x c.n c.a else resV l c.n c.a
def DoPost (w : World) (L : List Ce) (e : Ending) (w' : World) : Prop := ∃ v1 v2, e = .returned (.tuple #[v1, v2, .bool true]) ∧ OwnC w' w.heap.size v1 L ∧ Lies w' v2 L ∧ Below w.heap.size w w'
/-- A call that answers a row, from call to call. -/
theorem row_at {W : World} (V : World) (hV : Below W.heap.size W V) {F : Nat} {args : Array Value} {L : List Ce} (h : Calls Try.prog F args V (RowPost V L)) : Calls Try.prog F args V fun e w' => ∃ v, e = .returned v ∧ OwnC w' W.heap.size v L ∧ (∀ v1 B, OwnC V B v1 L → OwnC w' B v1 L) ∧ Below W.heap.size W w' :=
  h.mono fun _ _ ⟨v, he, ho, hb⟩ => ⟨v, he, own_less ho hV.size, fun _ _ h1 => own_below h1 hb (Nat.le_refl _), hV.trans (hb.mono hV.size)⟩

set_option maxRecDepth 100000 in
set_option maxHeartbeats 8000000 in
theorem do_ins (u : Value) (l : List Ce) (d ax an ar : Int) (aw : Bool) (aa : Aa) (w : World) (hL : Lies w u l) (hl : l.length ≤ 100000) (hn : IntIn an) (hd : d = 1) :
    Calls Try.prog 21 #[u, .agg #[.int .u8 d, .int .i64 ax, .int .i64 an, .int .i32 ar, .bool aw, .int .u16 (aa.fl : Int), .int .u8 (aa.fk : Int), .int .u32 (aa.fn : Int), .int .u8 (aa.bk : Int), .int .u32 (aa.bn : Int)]] w (DoPost w (insV l ax an aa)) := by
  obtain ⟨W, hW⟩ : ∃ W, W = w.alloc (actP d ax an ar aw aa) := ⟨_, rfl⟩
  have hB : Below w.heap.size w W := by rw [hW]; exact (Below.refl _ _).alloc (Nat.le_refl _) _
  have hat : ∀ V, Below W.heap.size W V → V.heap[w.heap.size]? = some (actP d ax an ar aw aa) := fun V hV => (hV.block _ (by rw [hW]; simp)).trans (by rw [hW]; exact heap_alloc_new w _)
  have q0 := fun V hV => cell_of (hat V hV) 0
  have q1 := fun V hV => cell_of (hat V hV) 1
  have q2 := fun V hV => cell_of (hat V hV) 2
  have q3 := fun V hV => cell_of (hat V hV) 3
  have q4 := fun V hV => cell_of (hat V hV) 4
  have q5 := fun V hV => cell_of (hat V hV) 5
  have q6 := fun V hV => cell_of (hat V hV) 6
  have q7 := fun V hV => cell_of (hat V hV) 7
  have q8 := fun V hV => cell_of (hat V hV) 8
  have q9 := fun V hV => cell_of (hat V hV) 9
  have HLi : ∀ V, Below W.heap.size W V → Lies V u l := fun V hV => (hL.below hB).below hV
  have K1 : Hid (∀ V, Below W.heap.size W V → Calls Try.prog 15 #[u, .int .i64 ax, .int .i64 an, attrV aa] V fun e w' => ∃ v, e = .returned v ∧ OwnC w' W.heap.size v (insV l ax an aa) ∧ (∀ v1 B, OwnC V B v1 (insV l ax an aa) → OwnC w' B v1 (insV l ax an aa)) ∧ Below W.heap.size W w') := Lib.hid fun V hV => row_at V hV (pins_any u l ax an aa V (HLi V hV) hl hn)
  have K2 : Hid (∀ V, Below W.heap.size W V → Calls Try.prog 30 #[u, .int .i64 ax, .int .i64 an, attrV aa] V fun e w' => ∃ v, e = .returned v ∧ OwnC w' W.heap.size v (insV l ax an aa) ∧ (∀ v1 B, OwnC V B v1 (insV l ax an aa) → OwnC w' B v1 (insV l ax an aa)) ∧ Below W.heap.size W w') := Lib.hid fun V hV => row_at V hV (rins_lies u l ax an aa V (HLi V hV) hl hn)
  have k0 : Below W.heap.size W W := Below.refl _ _
  have kd : Below W.heap.size W W.drew := below_drew k0 1
  have HW := Lib.hid hW
  have HB := Lib.hid hB
  subst hd
  generalize insV l ax an aa = L at *
  clear hL hn hat HLi hW hB
  go_enter Try.func21, Try.ntmps21
  go_upto_region 1 with fail
  rw [← HW.out]
  have z0 := q0 W k0
  go_wp2_with fail
  go_region_held3 (fun V => Below W.heap.size W V) (assumption)
    (first | (go_at_call 15; (with_reducible refine (K1.out _ (by assumption)).mono ?_); rintro e y1 ⟨v1, rfl, lo1, _, j1⟩) | (go_at_call 30; (with_reducible refine (K2.out _ (by assumption)).mono ?_); rintro e y2 ⟨v2, rfl, lo2, kp, j2⟩))
  all_goals
    go_wp2
    refine bodyPost_ret (v := .tuple #[v1, v2, .bool true]) (by simp [results, Try.results21, go_sem]) rfl ?_
    exact ⟨v1, v2, rfl, own_less (kp _ _ lo1) HB.out.size, own_lies lo2, HB.out.trans (j2.mono HB.out.size)⟩

set_option maxRecDepth 100000 in
set_option maxHeartbeats 8000000 in
theorem do_del (u : Value) (l : List Ce) (d ax an ar : Int) (aw : Bool) (aa : Aa) (w : World) (hL : Lies w u l) (hl : l.length ≤ 100000) (hn : IntIn an) (hd : d = 2) :
    Calls Try.prog 21 #[u, .agg #[.int .u8 d, .int .i64 ax, .int .i64 an, .int .i32 ar, .bool aw, .int .u16 (aa.fl : Int), .int .u8 (aa.fk : Int), .int .u32 (aa.fn : Int), .int .u8 (aa.bk : Int), .int .u32 (aa.bn : Int)]] w (DoPost w (delV l ax an aa)) := by
  obtain ⟨W, hW⟩ : ∃ W, W = w.alloc (actP d ax an ar aw aa) := ⟨_, rfl⟩
  have hB : Below w.heap.size w W := by rw [hW]; exact (Below.refl _ _).alloc (Nat.le_refl _) _
  have hat : ∀ V, Below W.heap.size W V → V.heap[w.heap.size]? = some (actP d ax an ar aw aa) := fun V hV => (hV.block _ (by rw [hW]; simp)).trans (by rw [hW]; exact heap_alloc_new w _)
  have q0 := fun V hV => cell_of (hat V hV) 0
  have q1 := fun V hV => cell_of (hat V hV) 1
  have q2 := fun V hV => cell_of (hat V hV) 2
  have q3 := fun V hV => cell_of (hat V hV) 3
  have q4 := fun V hV => cell_of (hat V hV) 4
  have q5 := fun V hV => cell_of (hat V hV) 5
  have q6 := fun V hV => cell_of (hat V hV) 6
  have q7 := fun V hV => cell_of (hat V hV) 7
  have q8 := fun V hV => cell_of (hat V hV) 8
  have q9 := fun V hV => cell_of (hat V hV) 9
  have HLi : ∀ V, Below W.heap.size W V → Lies V u l := fun V hV => (hL.below hB).below hV
  have K1 : Hid (∀ V, Below W.heap.size W V → Calls Try.prog 16 #[u, .int .i64 ax, .int .i64 an, attrV aa] V fun e w' => ∃ v, e = .returned v ∧ OwnC w' W.heap.size v (delV l ax an aa) ∧ (∀ v1 B, OwnC V B v1 (delV l ax an aa) → OwnC w' B v1 (delV l ax an aa)) ∧ Below W.heap.size W w') := Lib.hid fun V hV => row_at V hV (pdel_any u l ax an aa V (HLi V hV) hl hn)
  have K2 : Hid (∀ V, Below W.heap.size W V → Calls Try.prog 31 #[u, .int .i64 ax, .int .i64 an, attrV aa] V fun e w' => ∃ v, e = .returned v ∧ OwnC w' W.heap.size v (delV l ax an aa) ∧ (∀ v1 B, OwnC V B v1 (delV l ax an aa) → OwnC w' B v1 (delV l ax an aa)) ∧ Below W.heap.size W w') := Lib.hid fun V hV => row_at V hV (rdel_lies u l ax an aa V (HLi V hV) hl hn)
  have k0 : Below W.heap.size W W := Below.refl _ _
  have kd : Below W.heap.size W W.drew := below_drew k0 1
  have HW := Lib.hid hW
  have HB := Lib.hid hB
  subst hd
  generalize delV l ax an aa = L at *
  clear hL hn hat HLi hW hB
  go_enter Try.func21, Try.ntmps21
  go_upto_region 1 with fail
  rw [← HW.out]
  have z0 := q0 W k0
  go_wp2_with fail
  go_region_held3 (fun V => Below W.heap.size W V) (assumption)
    (first | (go_at_call 16; (with_reducible refine (K1.out _ (by assumption)).mono ?_); rintro e y1 ⟨v1, rfl, lo1, _, j1⟩) | (go_at_call 31; (with_reducible refine (K2.out _ (by assumption)).mono ?_); rintro e y2 ⟨v2, rfl, lo2, kp, j2⟩))
  all_goals
    go_wp2
    refine bodyPost_ret (v := .tuple #[v1, v2, .bool true]) (by simp [results, Try.results21, go_sem]) rfl ?_
    exact ⟨v1, v2, rfl, own_less (kp _ _ lo1) HB.out.size, own_lies lo2, HB.out.trans (j2.mono HB.out.size)⟩

set_option maxRecDepth 100000 in
set_option maxHeartbeats 8000000 in
theorem do_era (u : Value) (l : List Ce) (d ax an ar : Int) (aw : Bool) (aa : Aa) (w : World) (hL : Lies w u l) (hl : l.length ≤ 100000) (hn : IntIn an) (hd : d = 3) :
    Calls Try.prog 21 #[u, .agg #[.int .u8 d, .int .i64 ax, .int .i64 an, .int .i32 ar, .bool aw, .int .u16 (aa.fl : Int), .int .u8 (aa.fk : Int), .int .u32 (aa.fn : Int), .int .u8 (aa.bk : Int), .int .u32 (aa.bn : Int)]] w (DoPost w (eraV l ax an aa)) := by
  obtain ⟨W, hW⟩ : ∃ W, W = w.alloc (actP d ax an ar aw aa) := ⟨_, rfl⟩
  have hB : Below w.heap.size w W := by rw [hW]; exact (Below.refl _ _).alloc (Nat.le_refl _) _
  have hat : ∀ V, Below W.heap.size W V → V.heap[w.heap.size]? = some (actP d ax an ar aw aa) := fun V hV => (hV.block _ (by rw [hW]; simp)).trans (by rw [hW]; exact heap_alloc_new w _)
  have q0 := fun V hV => cell_of (hat V hV) 0
  have q1 := fun V hV => cell_of (hat V hV) 1
  have q2 := fun V hV => cell_of (hat V hV) 2
  have q3 := fun V hV => cell_of (hat V hV) 3
  have q4 := fun V hV => cell_of (hat V hV) 4
  have q5 := fun V hV => cell_of (hat V hV) 5
  have q6 := fun V hV => cell_of (hat V hV) 6
  have q7 := fun V hV => cell_of (hat V hV) 7
  have q8 := fun V hV => cell_of (hat V hV) 8
  have q9 := fun V hV => cell_of (hat V hV) 9
  have HLi : ∀ V, Below W.heap.size W V → Lies V u l := fun V hV => (hL.below hB).below hV
  have K1 : Hid (∀ V, Below W.heap.size W V → Calls Try.prog 17 #[u, .int .i64 ax, .int .i64 an, attrV aa] V fun e w' => ∃ v, e = .returned v ∧ OwnC w' W.heap.size v (eraV l ax an aa) ∧ (∀ v1 B, OwnC V B v1 (eraV l ax an aa) → OwnC w' B v1 (eraV l ax an aa)) ∧ Below W.heap.size W w') := Lib.hid fun V hV => row_at V hV (pera_any u l ax an aa V (HLi V hV) hl hn)
  have K2 : Hid (∀ V, Below W.heap.size W V → Calls Try.prog 32 #[u, .int .i64 ax, .int .i64 an, attrV aa] V fun e w' => ∃ v, e = .returned v ∧ OwnC w' W.heap.size v (eraV l ax an aa) ∧ (∀ v1 B, OwnC V B v1 (eraV l ax an aa) → OwnC w' B v1 (eraV l ax an aa)) ∧ Below W.heap.size W w') := Lib.hid fun V hV => row_at V hV (rera_lies u l ax an aa V (HLi V hV) hl hn)
  have k0 : Below W.heap.size W W := Below.refl _ _
  have kd : Below W.heap.size W W.drew := below_drew k0 1
  have HW := Lib.hid hW
  have HB := Lib.hid hB
  subst hd
  generalize eraV l ax an aa = L at *
  clear hL hn hat HLi hW hB
  go_enter Try.func21, Try.ntmps21
  go_upto_region 1 with fail
  rw [← HW.out]
  have z0 := q0 W k0
  go_wp2_with fail
  go_region_held3 (fun V => Below W.heap.size W V) (assumption)
    (first | (go_at_call 17; (with_reducible refine (K1.out _ (by assumption)).mono ?_); rintro e y1 ⟨v1, rfl, lo1, _, j1⟩) | (go_at_call 32; (with_reducible refine (K2.out _ (by assumption)).mono ?_); rintro e y2 ⟨v2, rfl, lo2, kp, j2⟩))
  all_goals
    go_wp2
    refine bodyPost_ret (v := .tuple #[v1, v2, .bool true]) (by simp [results, Try.results21, go_sem]) rfl ?_
    exact ⟨v1, v2, rfl, own_less (kp _ _ lo1) HB.out.size, own_lies lo2, HB.out.trans (j2.mono HB.out.size)⟩

set_option maxRecDepth 100000 in
set_option maxHeartbeats 8000000 in
theorem do_res (u : Value) (l : List Ce) (d ax an ar : Int) (aw : Bool) (aa : Aa) (w : World) (hL : Lies w u l) (hl : l.length ≤ 100000) (hn : IntIn an) (hd : d ≠ 0 ∧ d ≠ 1 ∧ d ≠ 2 ∧ d ≠ 3) :
    Calls Try.prog 21 #[u, .agg #[.int .u8 d, .int .i64 ax, .int .i64 an, .int .i32 ar, .bool aw, .int .u16 (aa.fl : Int), .int .u8 (aa.fk : Int), .int .u32 (aa.fn : Int), .int .u8 (aa.bk : Int), .int .u32 (aa.bn : Int)]] w (DoPost w (resV l an aa)) := by
  obtain ⟨W, hW⟩ : ∃ W, W = w.alloc (actP d ax an ar aw aa) := ⟨_, rfl⟩
  have hB : Below w.heap.size w W := by rw [hW]; exact (Below.refl _ _).alloc (Nat.le_refl _) _
  have hat : ∀ V, Below W.heap.size W V → V.heap[w.heap.size]? = some (actP d ax an ar aw aa) := fun V hV => (hV.block _ (by rw [hW]; simp)).trans (by rw [hW]; exact heap_alloc_new w _)
  have q0 := fun V hV => cell_of (hat V hV) 0
  have q1 := fun V hV => cell_of (hat V hV) 1
  have q2 := fun V hV => cell_of (hat V hV) 2
  have q3 := fun V hV => cell_of (hat V hV) 3
  have q4 := fun V hV => cell_of (hat V hV) 4
  have q5 := fun V hV => cell_of (hat V hV) 5
  have q6 := fun V hV => cell_of (hat V hV) 6
  have q7 := fun V hV => cell_of (hat V hV) 7
  have q8 := fun V hV => cell_of (hat V hV) 8
  have q9 := fun V hV => cell_of (hat V hV) 9
  have HLi : ∀ V, Below W.heap.size W V → Lies V u l := fun V hV => (hL.below hB).below hV
  have K1 : Hid (∀ V, Below W.heap.size W V → Calls Try.prog 18 #[u, .int .i64 an, attrV aa] V fun e w' => ∃ v, e = .returned v ∧ OwnC w' W.heap.size v (resV l an aa) ∧ (∀ v1 B, OwnC V B v1 (resV l an aa) → OwnC w' B v1 (resV l an aa)) ∧ Below W.heap.size W w') := Lib.hid fun V hV => row_at V hV (pres_any u l an aa V (HLi V hV) hl)
  have K2 : Hid (∀ V, Below W.heap.size W V → Calls Try.prog 33 #[u, .int .i64 an, attrV aa] V fun e w' => ∃ v, e = .returned v ∧ OwnC w' W.heap.size v (resV l an aa) ∧ (∀ v1 B, OwnC V B v1 (resV l an aa) → OwnC w' B v1 (resV l an aa)) ∧ Below W.heap.size W w') := Lib.hid fun V hV => row_at V hV (rres_lies u l an aa V (HLi V hV) hl)
  have k0 : Below W.heap.size W W := Below.refl _ _
  have kd : Below W.heap.size W W.drew := below_drew k0 1
  have HW := Lib.hid hW
  have HB := Lib.hid hB
  have f0 : (d == 0) = false := by simpa using hd.1
  have f1 : (d == 1) = false := by simpa using hd.2.1
  have f2 : (d == 2) = false := by simpa using hd.2.2.1
  have f3 : (d == 3) = false := by simpa using hd.2.2.2
  clear hd
  generalize resV l an aa = L at *
  clear hL hn hat HLi hW hB
  go_enter Try.func21, Try.ntmps21
  go_upto_region 1 with fail
  rw [← HW.out]
  have z0 := q0 W k0
  go_wp2_with fail
  go_region_held3 (fun V => Below W.heap.size W V) (assumption)
    (first | (go_at_call 18; (with_reducible refine (K1.out _ (by assumption)).mono ?_); rintro e y1 ⟨v1, rfl, lo1, _, j1⟩) | (go_at_call 33; (with_reducible refine (K2.out _ (by assumption)).mono ?_); rintro e y2 ⟨v2, rfl, lo2, kp, j2⟩))
  all_goals
    go_wp2
    refine bodyPost_ret (v := .tuple #[v1, v2, .bool true]) (by simp [results, Try.results21, go_sem]) rfl ?_
    exact ⟨v1, v2, rfl, own_less (kp _ _ lo1) HB.out.size, own_lies lo2, HB.out.trans (j2.mono HB.out.size)⟩

set_option maxRecDepth 100000 in
set_option maxHeartbeats 8000000 in
theorem do_wri (u : Value) (l : List Ce) (ax an ar : Int) (aw : Bool) (aa : Aa) (w : World) (hL : Lies w u l) (hl : l.length ≤ 100000) :
    Calls Try.prog 21 #[u, .agg #[.int .u8 0, .int .i64 ax, .int .i64 an, .int .i32 ar, .bool aw, .int .u16 (aa.fl : Int), .int .u8 (aa.fk : Int), .int .u32 (aa.fn : Int), .int .u8 (aa.bk : Int), .int .u32 (aa.bn : Int)]] w (DoPost w (if fitsV l.length ax aw then wriV l ax ar aw aa else [])) := by
  obtain ⟨W, hW⟩ : ∃ W, W = w.alloc (actP 0 ax an ar aw aa) := ⟨_, rfl⟩
  have hB : Below w.heap.size w W := by rw [hW]; exact (Below.refl _ _).alloc (Nat.le_refl _) _
  have hat : ∀ V, Below W.heap.size W V → V.heap[w.heap.size]? = some (actP 0 ax an ar aw aa) := fun V hV => (hV.block _ (by rw [hW]; simp)).trans (by rw [hW]; exact heap_alloc_new w _)
  have HAt := Lib.hid hat
  have HLi : ∀ V, Below W.heap.size W V → Lies V u l := fun V hV => (hL.below hB).below hV
  have HP := Lib.hid (pwri_any u l ax ar aw aa W (HLi W (Below.refl _ _)) hl)
  have HR : Hid (∀ V, Below W.heap.size W V → Calls Try.prog 29 #[u, .int .i64 ax, .int .i32 ar, .bool aw, attrV aa] V (PutPost V (wriV l ax ar aw aa) (fitsV l.length ax aw))) := Lib.hid fun V hV => rwri_lies u l ax ar aw aa V (HLi V hV) hl
  have HW := Lib.hid hW
  have HB := Lib.hid hB
  unfold PutPost at HP HR
  generalize wriV l ax ar aw aa = L0 at *
  obtain ⟨L, hL0⟩ : ∃ L, L = (if fitsV l.length ax aw = true then L0 else []) := ⟨_, rfl⟩
  rw [← hL0] at HP HR ⊢
  have hcase : fitsV l.length ax aw = true ∨ fitsV l.length ax aw = false ∧ L = [] := by
    cases h : fitsV l.length ax aw
    · exact Or.inr ⟨rfl, by rw [hL0, h]; rfl⟩
    · exact Or.inl rfl
  generalize fitsV l.length ax aw = ok at *
  clear hL hat HLi hW hB hL0
  rcases hcase with rfl | ⟨rfl, rfl⟩
  all_goals
    go_enter Try.func21, Try.ntmps21
    go_upto_region 1 with fail
    rw [← HW.out]
    have hat := HAt.out W (Below.refl _ _)
    have q0 := cell_of hat 0
    have q1 := cell_of hat 1
    have q3 := cell_of hat 3
    have q4 := cell_of hat 4
    have q5 := cell_of hat 5
    have q6 := cell_of hat 6
    have q7 := cell_of hat 7
    have q8 := cell_of hat 8
    have q9 := cell_of hat 9
    clear hat
    go_wp2_with fail
    refine (show Calls _ _ _ _ _ from HP.out).mono ?_
    rintro e w1 ⟨v1, rfl, ho1, b1⟩
    clear q0 q1 q3 q4 q5 q6 q7 q8 q9
    have hat := HAt.out w1 b1
    have q1 := cell_of hat 1
    have q3 := cell_of hat 3
    have q4 := cell_of hat 4
    have q5 := cell_of hat 5
    have q6 := cell_of hat 6
    have q7 := cell_of hat 7
    have q8 := cell_of hat 8
    have q9 := cell_of hat 9
    have HR1 := Lib.hid (HR.out w1 b1)
    have B1 := Lib.hid b1
    have O1 := Lib.hid ho1
    obtain ⟨A1, c1, rfl, _⟩ := own_lies ho1
    clear hat ho1 b1 HP HR
    go_wp2_with fail
    refine (show Calls _ _ _ _ _ from HR1.out).mono ?_
    rintro e w2 ⟨v2, rfl, ho2, b2⟩
    have O2 := Lib.hid (own_lies ho2)
    have O12 := Lib.hid (own_below O1.out b2 (Nat.le_refl _))
    have B2 := Lib.hid (B1.out.trans (b2.mono B1.out.size))
    clear ho2 b2 HR1 O1 q1 q3 q4 q5 q6 q7 q8 q9
  · go_wp2
    refine bodyPost_ret (v := .tuple #[.slice A1 L.length c1, v2, .bool true]) (by simp [results, Try.results21, go_sem]) rfl ?_
    exact ⟨_, _, rfl, own_less O12.out HB.out.size, O2.out, HB.out.trans (B2.out.mono HB.out.size)⟩
  · rw [List.length_nil] at *
    go_wp2
    refine bodyPost_ret (v := .tuple #[.slice A1 0 c1, v2, .bool true]) (by simp [results, Try.results21, go_sem]) rfl ?_
    exact ⟨_, _, rfl, own_less O12.out HB.out.size, O2.out, HB.out.trans (B2.out.mono HB.out.size)⟩

theorem do_any (u : Value) (l : List Ce) (c : Ac) (w : World) (hL : Lies w u l) (hl : l.length ≤ 100000) (hn : IntIn c.n) : Calls Try.prog 21 #[u, actV c] w (DoPost w (doV l c)) := by
  obtain ⟨d, ax, an, ar, aw, aa⟩ := c
  unfold doV
  by_cases h0 : d = 0
  · subst h0; rw [if_pos rfl]; exact do_wri u l ax an ar aw aa w hL hl
  rw [if_neg h0]
  by_cases h1 : d = 1
  · rw [if_pos h1]; exact do_ins u l d ax an ar aw aa w hL hl hn h1
  rw [if_neg h1]
  by_cases h2 : d = 2
  · rw [if_pos h2]; exact do_del u l d ax an ar aw aa w hL hl hn h2
  rw [if_neg h2]
  by_cases h3 : d = 3
  · rw [if_pos h3]; exact do_era u l d ax an ar aw aa w hL hl hn h3
  · rw [if_neg h3]; exact do_res u l d ax an ar aw aa w hL hl hn ⟨h0, h1, h2, h3⟩
end Go.Proofs.Ythpnmhllgjibgaa.Rw
