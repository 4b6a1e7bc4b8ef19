/- Layer 12: stops beside the document's and an act's box. -/
import Derived.Test.YtfkiihddcinckaaTbU
import Derived.Test.YtfkiihddcinckaaTbX
set_option linter.unusedVariables false
namespace Go.Proofs.Ytfkiihddcinckaa.Tb
open Go.RowKit

structure DuoP (w : World) (s : Value) (o : Nat) (bs : List Bool) (W : Nat) (v : Value) (l : List Nat) (P : Nat) (ob : Obj) (wr : World) : Prop where
  below : Below w.heap.size w wr
  st : ∃ F : Nat → Prop, IsSt F wr s bs ∧ (∀ k, F k → w.heap.size ≤ k) ∧ ¬ F o ∧ (∀ b, v.ownBlock = some b → ¬ F b) ∧ ¬ F P
  box : wr.heap[o]? = some (refO W v)
  lies : LiesI wr v l
  ho : w.heap.size ≤ o
  ne : v.ownBlock ≠ some o
  vlt : ∀ b, v.ownBlock = some b → b < wr.heap.size
  pb : wr.heap[P]? = some ob
  hP : w.heap.size ≤ P
  pne : P ≠ o
  vp : v.ownBlock ≠ some P
theorem DuoD.act {w wr : World} {s v : Value} {o W : Nat} {bs : List Bool} {l : List Nat} (h : DuoD w s o bs W v l wr) (ob : Obj) : DuoP w s o bs W v l wr.heap.size ob (wr.alloc ob) := by
  obtain ⟨F, h1, h2, h3, h4⟩ := h.st
  have hb := (Below.refl wr.heap.size wr).alloc (Nat.le_refl _) ob
  have h' := h.old hb
  exact ⟨h'.below, ⟨F, st_old h1 hb, h2, h3, h4, fun hf => by have := st_lt h1 _ hf; omega⟩, h'.box, h'.lies, h'.ho, h'.ne, h'.vlt, heap_new wr ob, h.below.size, fun e => by have := blk_lt h.box; omega, fun e => by have := h.vlt _ e; omega⟩
namespace DuoP
variable {w wr U : World} {s v v' : Value} {o W W' P : Nat} {bs bs' : List Bool} {l l' : List Nat} {ob : Obj}
theorem out (h : DuoP w s o bs W v l P ob wr) : DuoD w s o bs W v l wr := by
  obtain ⟨F, h1, h2, h3, h4, _⟩ := h.st
  exact ⟨h.below, ⟨F, h1, h2, h3, h4⟩, h.box, h.lies, h.ho, h.ne, h.vlt⟩
theorem len (h : DuoP w s o bs W v l P ob wr) : 1 ≤ bs.length ∧ bs.length ≤ 400 := by
  obtain ⟨F, h1, _⟩ := h.st
  exact st_len400 h1
theorem old (h : DuoP w s o bs W v l P ob wr) (hb : Below wr.heap.size wr U) : DuoP w s o bs W v l P ob U := by
  obtain ⟨F, h1, h2, h3, h4, h5⟩ := h.st
  have h' := h.out.old hb
  exact ⟨h'.below, ⟨F, st_old h1 hb, h2, h3, h4, h5⟩, h'.box, h'.lies, h'.ho, h'.ne, h'.vlt, (hb.block P (blk_lt h.pb)).trans h.pb, h.hP, h.pne, h.vp⟩
theorem turn (h : DuoP w s o bs W v l P ob wr) {F : Nat → Prop} (h1 : IsSt F wr s bs) (h2 : ∀ k, F k → w.heap.size ≤ k) (h3 : ¬ F o) (h4 : ∀ b, v.ownBlock = some b → ¬ F b) (h5 : ¬ F P) {r : Value} {e : Ending} (hp : MPost F wr s bs' r e U) : e = .returned r ∧ DuoP w s o bs' W v l P ob U := by
  obtain ⟨he, F', g1, g2, g3⟩ := hp
  refine ⟨he, ⟨MineT.turn h.below h2 g3, ⟨F', g1, fun k hk => ?_, fun hf => ?_, fun b hb hf => ?_, fun hf => ?_⟩, (g3.block o (blk_lt h.box) h3).trans h.box, h.lies.keep g3.size fun b hb hl => g3.block b hl (h4 b hb), h.ho, h.ne, fun b hb => Nat.lt_of_lt_of_le (h.vlt b hb) g3.size, (g3.block P (blk_lt h.pb) h5).trans h.pb, h.hP, h.pne, h.vp⟩⟩
  · rcases g2 k hk with h' | h'
    · exact h2 k h'
    · exact Nat.le_trans h.below.size h'
  · rcases g2 o hf with h' | h'
    · exact h3 h'
    · have := blk_lt h.box; omega
  · rcases g2 b hf with h' | h'
    · exact h4 b hb h'
    · have := h.vlt b hb; omega
  · rcases g2 P hf with h' | h'
    · exact h5 h'
    · have := blk_lt h.pb; omega
/-- The document's new value is stored. -/
theorem put (h : DuoP w s o bs W v l P ob wr) (hb : Below wr.heap.size wr U) (hl : LiesI U v' l') (hf : v' = v ∨ ∀ b, v'.ownBlock = some b → wr.heap.size ≤ b ∧ b < U.heap.size) (W' : Nat) : DuoP w s o bs W' v' l' P ob (setR U o W' v') := by
  obtain ⟨F, h1, h2, h3, h4, h5⟩ := h.st
  have h' := h.out.put hb hl hf W'
  have ho := blk_lt h.box
  have hPl := blk_lt h.pb
  have hkeep : ∀ k, k ≠ o → (setR U o W' v').heap[k]? = U.heap[k]? := fun k hk => by
    unfold setR
    rw [Below.heap_setCell _ _ _ _ hk, Below.heap_setCell _ _ _ _ hk]
  refine ⟨h'.below, ⟨F, st_keep (st_old h1 hb) fun k hk => hkeep k (fun e => h3 (e ▸ hk)), h2, h3, fun b hb' hFb => ?_, h5⟩, h'.box, h'.lies, h'.ho, h'.ne, h'.vlt, (hkeep P h.pne).trans ((hb.block P hPl).trans h.pb), h.hP, h.pne, ?_⟩
  · rcases hf with rfl | hf
    · exact h4 b hb' hFb
    · have := st_lt h1 b hFb; have := (hf b hb').1; omega
  · rcases hf with rfl | hf
    · exact h.vp
    · exact fun e => by have := (hf P e).1; omega
theorem putL (h : DuoP w s o bs W v l P ob wr) : DuoP w s o bs W (.slice none 0 0) [] P ob (wr.setCell ⟨o, 1, none⟩ (.slice none 0 0)) := by
  obtain ⟨F, h1, h2, h3, h4, h5⟩ := h.st
  have h' := h.out.putL
  have hkeep : ∀ k, k ≠ o → (wr.setCell ⟨o, 1, none⟩ (.slice none 0 0)).heap[k]? = wr.heap[k]? := fun k hk => Below.heap_setCell _ _ _ _ hk
  exact ⟨h'.below, ⟨F, st_keep h1 fun k hk => hkeep k (fun e => h3 (e ▸ hk)), h2, h3, fun b hb' => by simp [Value.ownBlock] at hb', h5⟩, h'.box, h'.lies, h'.ho, h'.ne, h'.vlt, (hkeep P h.pne).trans h.pb, h.hP, h.pne, by simp [Value.ownBlock]⟩
end DuoP
section
variable {w wr : World} {s v : Value} {o W P : Nat} {bs bs' : List Bool} {l : List Nat} {ob : Obj}
theorem p_set (h : DuoP w s o bs W v l P ob wr) (x : Int) : Calls Try.prog 12 #[s, .int .i64 x] wr fun e w' => e = .returned (.bool (setOk bs x)) ∧ DuoP w s o (setB bs x) W v l P ob w' := by
  obtain ⟨F, h1, h2, h3, h4, h5⟩ := h.st
  exact (set_any h1 x).mono fun e w' hp => h.turn h1 h2 h3 h4 h5 hp
theorem p_clr (h : DuoP w s o bs W v l P ob wr) (x : Int) : Calls Try.prog 14 #[s, .int .i64 x] wr fun e w' => e = .returned (.bool (clrOk bs x)) ∧ DuoP w s o (clrB bs x) W v l P ob w' := by
  obtain ⟨F, h1, h2, h3, h4, h5⟩ := h.st
  exact (clr_any h1 x).mono fun e w' hp => h.turn h1 h2 h3 h4 h5 hp
theorem p_wipe (h : DuoP w s o bs W v l P ob wr) : Calls Try.prog 16 #[s] wr fun e w' => e = .returned (.tuple #[]) ∧ DuoP w s o (wipeB bs) W v l P ob w' := by
  obtain ⟨F, h1, h2, h3, h4, h5⟩ := h.st
  exact (wipe_any h1).mono fun e w' hp => h.turn h1 h2 h3 h4 h5 hp
theorem p_size (h : DuoP w s o bs W v l P ob wr) (x : Int) : Calls Try.prog 17 #[s, .int .i64 x] wr fun e w' => e = .returned (.tuple #[]) ∧ DuoP w s o (sizeB bs x) W v l P ob w' := by
  obtain ⟨F, h1, h2, h3, h4, h5⟩ := h.st
  exact (size_any h1 x).mono fun e w' hp => h.turn h1 h2 h3 h4 h5 hp

/-! ### the document's step behind the program's -/
theorem st_len4 (bs : List Bool) (h : bs.length ≤ 400) : (stL bs).length ≤ 100000 := by have := st_len bs; omega
/-- What the document's call answers: the new list, in a slice. -/
def StepD (v : Value) (w : World) (W : Nat) (l : List Nat) (ok : Bool) (e : Ending) (w' : World) : Prop := ∃ A c, e = .returned (.tuple #[refV W (.slice A l.length c), .bool ok]) ∧ LiesI w' (.slice A l.length c) l ∧ Below w.heap.size w w' ∧ ((.slice A l.length c : Value) = v ∨ ∀ b, (Value.slice A l.length c).ownBlock = some b → w.heap.size ≤ b ∧ b < w'.heap.size)
theorem step_of {v : Value} {w w' : World} {W : Nat} {l : List Nat} {ok : Bool} {e : Ending} (h : RefPost v w W l ok e w') : StepD v w W l ok e w' := by
  obtain ⟨u, he, hl, hb, hf⟩ := h
  obtain ⟨A, c, rfl, hrest⟩ := id hl
  exact ⟨A, c, he, hl, hb, hf⟩
theorem d_set (h : DuoP w s o bs' bs.length v (stL bs) P ob wr) (h4 : bs.length ≤ 400) (x : Int) : Calls Try.prog 13 #[refV bs.length v, .int .i64 x] wr (StepD v wr bs.length (stL (setB bs x)) (setOk bs x)) := by
  cases hk : setOk bs x
  · have := rset_no bs.length v (stL bs) x wr h.lies (st_len4 bs h4) (by rw [set_ok]; exact hk)
    rw [set_same hk]
    exact this.mono fun e w' hp => step_of hp
  · have := rset_yes bs.length v (stL bs) x wr h.lies (st_len4 bs h4) (by omega) (by rw [set_ok]; exact hk)
    rw [set_st hk] at this
    exact this.mono fun e w' hp => step_of hp
theorem d_clr (h : DuoP w s o bs' bs.length v (stL bs) P ob wr) (h4 : bs.length ≤ 400) (x : Int) : Calls Try.prog 15 #[refV bs.length v, .int .i64 x] wr (StepD v wr bs.length (stL (clrB bs x)) (clrOk bs x)) := by
  cases hk : clrOk bs x
  · have := rclr_no bs.length v (stL bs) x wr h.lies (st_len4 bs h4) (by rw [is_st]; exact hk)
    rw [clr_same hk]
    exact this.mono fun e w' hp => step_of hp
  · have := rclr_yes bs.length v (stL bs) x wr h.lies (st_len4 bs h4) (by rw [is_st]; exact hk)
    rw [clr_st hk] at this
    exact this.mono fun e w' hp => step_of hp
def SizeD (w : World) (W : Nat) (l : List Nat) (e : Ending) (w' : World) : Prop := ∃ A c, e = .returned (refV W (.slice A l.length c)) ∧ LiesI w' (.slice A l.length c) l ∧ Below w.heap.size w w' ∧ ∀ b, (Value.slice A l.length c).ownBlock = some b → w.heap.size ≤ b ∧ b < w'.heap.size
theorem size_of {w w' : World} {W : Nat} {l : List Nat} {e : Ending} (h : RefOut w W l e w') : SizeD w W l e w' := by
  obtain ⟨u, he, hl, hb, hf⟩ := h
  obtain ⟨A, c, rfl, hrest⟩ := id hl
  exact ⟨A, c, he, hl, hb, hf⟩
theorem d_size (h : DuoP w s o bs' bs.length v (stL bs) P ob wr) (h4 : bs.length ≤ 400) (x : Int) : Calls Try.prog 18 #[refV bs.length v, .int .i64 x] wr (SizeD wr (sizeB bs x).length (stL (sizeB bs x))) := by
  have := rsize_any bs.length v (stL bs) x wr h.lies (st_len4 bs h4) (by omega)
  rw [size_st, ← size_len bs x] at this
  exact this.mono fun e w' hp => size_of hp
theorem d_new (x : Int) (wr : World) : Calls Try.prog 11 #[.int .i64 x] wr (SizeD wr (newB x).length (stL (newB x))) := by
  have := rnew_any x wr
  rw [new_st, ← new_len x] at this
  exact this.mono fun e w' hp => size_of hp
end
end Go.Proofs.Ytfkiihddcinckaa.Tb
