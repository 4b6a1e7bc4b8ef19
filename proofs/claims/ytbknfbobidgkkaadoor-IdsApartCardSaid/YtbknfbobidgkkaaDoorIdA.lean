/- Layer 4: the library's variables as their initialisers lay them; what Words and Parse call: Itoa, Cut at a dot, part, isPart. -/
import Derived.Test.YtbknfbobidgkkaaDoorIdShelf
import Derived.Test.YtbknfbobidgkkaaDoorIdM
import Derived.Test.YtbknfbobidgkkaaDoorIdLA
import Derived.Lib.ConvBytes
namespace Go.Proofs.YtbknfbobidgkkaaDoor
open Go.RowKit Ids

/-- What the library's variables hold that the program's road reads. -/
def Vars (w : World) : Prop := Lib.TabIs Tryd.prog w "internal/strconv.uint64pow10" .u64 Lib.pow10Tab ∧ (∃ tp p, w.var? Tryd.prog "strconv.ErrSyntax" = some #[.iface tp p]) ∧ ∃ tp p, w.var? Tryd.prog "strconv.ErrRange" = some #[.iface tp p]

theorem var_below {P : Program} {n : String} {cs : Array Value} {w w' : World} (h : w.var? P n = some cs) {B : Nat} (hb : Below B w w') (hB : w.heap.size ≤ B) : w'.var? P n = some cs := by
  unfold World.var? at h ⊢
  obtain ⟨g, hg, h⟩ := Option.bind_eq_some_iff.1 h
  rw [hg]
  have hlt : g < w.heap.size := by
    cases hx : w.heap[g]? with
    | none => rw [hx] at h; cases h
    | some o => exact (Array.getElem?_eq_some_iff.1 hx).1
  simp only [Option.bind_some]
  rw [hb.block g (by omega)]
  exact h

theorem Vars.below {w w' : World} (h : Vars w) {B : Nat} (hb : Below B w w') (hB : w.heap.size ≤ B) : Vars w' := by
  obtain ⟨h1, ⟨tp, p, h2⟩, ⟨tq, q, h3⟩⟩ := h
  exact ⟨var_below h1 hb hB, ⟨tp, p, var_below h2 hb hB⟩, ⟨tq, q, var_below h3 hb hB⟩⟩

theorem below_grow (w : World) (k : Nat) (os : Array Obj) : Below w.heap.size w (Sort.grow (w.drewN k) os) := by
  refine ⟨rfl, rfl, rfl, ?_, fun j hj => ?_⟩
  · show w.heap.size ≤ (w.heap ++ os).size
    simp
  · show (w.heap ++ os)[j]? = w.heap[j]?
    exact Array.getElem?_append_left hj

theorem itoa_any (n : Int) (h0 : -9223372036854775808 ≤ n) (h1 : n ≤ 9223372036854775807) (w : World) (hV : Vars w) :
    Calls Tryd.prog 22 #[.int .i64 n] w fun e w' => e = .returned (.string ⟨(Lib.itoa n).toArray⟩) ∧ Below w.heap.size w w' :=
  (Tryd.strconv_Itoa n h0 h1 w hV.1).mono fun _ _ ⟨he, k, os, hw⟩ => ⟨he, hw ▸ below_grow w k os⟩

theorem isPart_any (a : Int) (w : World) : Calls Tryd.prog 21 #[.int .i64 a] w fun e w' => e = .returned (.bool (mayB a)) ∧ w = w' := by
  by_cases h0 : 0 ≤ a
  · have E := Lib.hid (show mayB a = decide (a ≤ 2147483647) by simp [mayB, h0])
    go_enter Tryd.func21, Tryd.ntmps21
    go_wp2
    go_ret
    exact ⟨ret_bool E.out.symm, rfl⟩
  · have E := Lib.hid (show mayB a = false by simp [mayB, h0])
    have hd : decide (0 ≤ a) = false := by simpa using h0
    go_enter Tryd.func21, Tryd.ntmps21
    go_wp2
    go_ret
    exact ⟨ret_bool E.out.symm, rfl⟩

/-- Atoi tells an error. -/
def AtoiBad (s : ByteArray) (w : World) : Prop := Calls Tryd.prog 34 #[.string s] w fun e w' => ∃ (N : Nat) (v : Int), e = .returned (.tuple #[.int .i64 v, .iface 100 (.pointer (some ⟨N, 0, none⟩))]) ∧ Below w.heap.size w w'

theorem part_bad (l : List UInt8) (w : World) (E : Hid (partV l = -1)) (C : Hid (AtoiBad ⟨l.toArray⟩ w)) :
    Calls Tryd.prog 20 #[.string ⟨l.toArray⟩] w fun e w' => e = .returned (.int .i64 (partV l)) ∧ Below w.heap.size w w' := by
  go_enter Tryd.func20, Tryd.ntmps20
  go_wp2_with fail
  refine (show Calls _ _ _ _ _ from C.out).mono ?_
  rintro e w' ⟨N, v, rfl, hw⟩
  have HW := Lib.hid hw
  clear hw C
  go_wp2
  go_ret
  exact ⟨ret_int E.out.symm, HW.out⟩

theorem part_any (l : List UInt8) (hl : l.length ≤ 1000000) (w : World) (hV : Vars w) :
    Calls Tryd.prog 20 #[.string ⟨l.toArray⟩] w fun e w' => e = .returned (.int .i64 (partV l)) ∧ Below w.heap.size w w' := by
  have hs : (⟨l.toArray⟩ : ByteArray).size = l.length := by simp [ByteArray.size]
  obtain ⟨_, ⟨tp, p, h2⟩, ⟨tq, q, h3⟩⟩ := hV
  rcases h : Lib.atoiAll l with v | _ | _
  · have E := Lib.hid (show partV l = v by simp [partV, h])
    have C := Lib.hid (Tryd.strconv_Atoi_ok ⟨l.toArray⟩ (by omega) v (by simpa using h) w)
    clear h hs h2 h3
    go_enter Tryd.func20, Tryd.ntmps20
    go_wp2_with fail
    refine C.out.mono ?_
    rintro e w' ⟨rfl, hw⟩
    have HW : Hid (Below w.heap.size w w') := Lib.hid (by
      rcases hw with rfl | ⟨t, rfl⟩
      · exact Below.refl _ _
      · exact Lib.bytesWorld_below _ _ _)
    clear hw C
    go_wp2
    go_ret
    exact ⟨ret_int E.out.symm, HW.out⟩
  · have E := Lib.hid (show partV l = -1 by simp [partV, h])
    have C : Hid (AtoiBad ⟨l.toArray⟩ w) := Lib.hid ((Any.strconv_Atoi_syntax_var Tryd.laysC172 ⟨l.toArray⟩ (by omega) (by simpa using h) tp p w h2).mono fun e w' ⟨N, he, _, _, hb⟩ => ⟨N, 0, he, hb⟩)
    clear h hs h2 h3
    exact part_bad _ _ E C
  · have E := Lib.hid (show partV l = -1 by simp [partV, h])
    have C : Hid (AtoiBad ⟨l.toArray⟩ w) := Lib.hid ((Tryd.strconv_Atoi_range_var ⟨l.toArray⟩ (by omega) (by simpa using h) tq q w h3).mono fun e w' ⟨N, he, _, _, hb⟩ => ⟨N, _, he, hb⟩)
    clear h hs h2 h3
    exact part_bad _ _ E C

/-- What Cut at a dot answers. -/
def CutPost (l : List UInt8) (w : World) (e : Ending) (w' : World) : Prop := (∃ b, e = .returned (.tuple #[.string ⟨(cutL l).1.toArray⟩, .string ⟨(cutL l).2.toArray⟩, .bool b])) ∧ ∃ n, w' = w.drewN n

theorem CutPost.mk {l x y : List UInt8} {s t : ByteArray} {b : Bool} {w : World} (n : Nat) (h : cutL l = (x, y)) (hs : s = ⟨x.toArray⟩) (ht : t = ⟨y.toArray⟩) : CutPost l w (.returned (.tuple #[.string s, .string t, .bool b])) (w.drewN n) :=
  ⟨⟨b, by rw [h, hs, ht]⟩, n, rfl⟩

theorem cutLite_any (l : List UInt8) (hl : l.length ≤ 1000000) (w : World) : Calls Tryd.prog 32 #[.string ⟨l.toArray⟩, .string ⟨#[46]⟩] w (CutPost l w) := by
  have hs : (⟨l.toArray⟩ : ByteArray).size = l.length := by simp [ByteArray.size]
  have C := Lib.hid (Tryd.stringslite_Index_one ⟨l.toArray⟩ 46 w)
  rcases cut_cases l with ⟨h1, h2⟩ | ⟨i, h1, h2, h3⟩
  · have C1 : Hid (Calls Tryd.prog 38 #[.string ⟨l.toArray⟩, .string ⟨#[46]⟩] w fun e w' => e = .returned (.int .i64 (-1)) ∧ w' = w) := Lib.hid (by have := C.out; simp only [h1] at this; exact this)
    have H2 := Lib.hid h2
    clear h1 h2 C hs
    go_enter Tryd.func32, Tryd.ntmps32
    go_wp2_with fail
    refine C1.out.mono ?_
    rintro e w' ⟨rfl, rfl⟩
    go_wp2
    go_ret3
    exact CutPost.mk 0 H2.out rfl rfl
  · have C1 : Hid (Calls Tryd.prog 38 #[.string ⟨l.toArray⟩, .string ⟨#[46]⟩] w fun e w' => e = .returned (.int .i64 i) ∧ w' = w) := Lib.hid (by have := C.out; simp only [h1] at this; exact this)
    have H3 := Lib.hid h3
    obtain ⟨s, hse⟩ : ∃ s : ByteArray, s = ⟨l.toArray⟩ := ⟨_, rfl⟩
    have HE := Lib.hid hse
    rw [← hse] at C1 hs ⊢
    have hi : i < s.size := by omega
    have hb : s.size ≤ 1000000 := by omega
    clear h1 h2 h3 C hs hse hl
    go_enter Tryd.func32, Tryd.ntmps32
    go_wp2_with fail
    refine C1.out.mono ?_
    rintro e w' ⟨rfl, rfl⟩
    clear C1
    go_wp2
    go_quiet (fail)
    go_wp2
    go_ret3
    refine CutPost.mk _ H3.out ?_ ?_
    · rw [Lib.extract_eq, HE.out]; simp
    · rw [Lib.extract_eq, HE.out]
      congr 1
      simp only [ByteArray.size, List.size_toArray]
      exact congrArg _ (List.take_of_length_le (by simp))

theorem cut_any (l : List UInt8) (hl : l.length ≤ 1000000) (w : World) : Calls Tryd.prog 18 #[.string ⟨l.toArray⟩, .string ⟨#[46]⟩] w (CutPost l w) := by
  have C := Lib.hid (cutLite_any l hl w)
  go_enter Tryd.func18, Tryd.ntmps18
  go_wp2_with fail
  refine C.out.mono ?_
  rintro e w' ⟨⟨b, rfl⟩, n, rfl⟩
  go_wp2
  go_ret3
  exact ⟨⟨b, rfl⟩, n, rfl⟩

end Go.Proofs.YtbknfbobidgkkaaDoor
