/- Layer 2: New, Len, made, isLabel of a log. -/
import Derived.Test.YtjfonbkeamhnmaaAudA
namespace Go.Proofs.Ytjfonbkeamhnmaa
open Go.RowKit Lat

theorem made_any (gb lb n : Nat) (T : Nat → Nat → Bool) (v : Value) (l : List Ent) (w : World) (h : IsLog w gb lb n T v l) :
    Calls Try.prog 26 #[.pointer (some ⟨gb, 0, none⟩)] w fun e w' => e = .returned (.bool true) ∧ w = w' := by
  have c0 := h.cells.1
  have HL := Lib.hid h.lat
  have hp := h.lat.pos.1
  clear h
  go_enter Try.func26, Try.ntmps26
  go_wp2_with (go_at_call 25; refine (len_any lb n T _ HL.out).mono ?_; rintro e w' ⟨rfl, rfl⟩)
  go_ret
  exact ⟨ret_bool (by simp; omega), rfl⟩

theorem logLabel_any (gb lb n : Nat) (T : Nat → Nat → Bool) (v : Value) (l : List Ent) (a : Int) (w : World) (h : IsLog w gb lb n T v l) :
    Calls Try.prog 27 #[.pointer (some ⟨gb, 0, none⟩), .int .i64 a] w fun e w' => e = .returned (.bool (isLabel n a)) ∧ w = w' := by
  have H := Lib.hid h
  have c0 := h.cells.1
  have HL := Lib.hid h.lat
  clear h
  by_cases h0 : 0 ≤ a
  · have E1 := Lib.hid (show isLabel n a = decide (a < n) by simp [isLabel, h0])
    go_enter Try.func27, Try.ntmps27
    go_wp2_with (first | (go_at_call 26; refine (made_any gb lb n T v l _ H.out).mono ?_; rintro e w' ⟨rfl, rfl⟩) | (go_at_call 25; refine (len_any lb n T _ HL.out).mono ?_; rintro e w' ⟨rfl, rfl⟩))
    go_ret
    exact ⟨ret_bool (by rw [E1.out]), rfl⟩
  · have E1 := Lib.hid (show isLabel n a = false by simp [isLabel, h0])
    have hd : decide (0 ≤ a) = false := by simpa using h0
    go_enter Try.func27, Try.ntmps27
    go_wp2_with (go_at_call 26; refine (made_any gb lb n T v l _ H.out).mono ?_; rintro e w' ⟨rfl, rfl⟩)
    go_ret
    exact ⟨ret_bool (by rw [E1.out]), rfl⟩

theorem logLen_any (gb lb n : Nat) (T : Nat → Nat → Bool) (v : Value) (l : List Ent) (w : World) (h : IsLog w gb lb n T v l) :
    Calls Try.prog 12 #[.pointer (some ⟨gb, 0, none⟩)] w fun e w' => e = .returned (.int .i64 l.length) ∧ w = w' := by
  have c1 := h.cells.2
  obtain ⟨A, c, rfl, hm, _⟩ := ents_shape h.own
  clear h
  go_enter Try.func12, Try.ntmps12
  go_wp2
  go_ret
  exact ⟨rfl, rfl⟩

def LogNew (w : World) (lb n : Nat) (T : Nat → Nat → Bool) (e : Ending) (w' : World) : Prop :=
  ∃ gb, e = .returned (.tuple #[.pointer (some ⟨gb, 0, none⟩), .int .i64 0]) ∧ w.heap.size ≤ gb ∧ IsLog w' gb lb n T (.slice none 0 0) [] ∧ Below w.heap.size w w'

theorem logNew_any (lb n : Nat) (T : Nat → Nat → Bool) (w : World) (h : IsLat w lb n T) : Calls Try.prog 7 #[.pointer (some ⟨lb, 0, none⟩)] w (LogNew w lb n T) := by
  have H := Lib.hid h
  have hp := h.pos
  have hd : ((n : Int) == 0) = false := by simp; omega
  clear h
  go_enter Try.func7, Try.ntmps7
  go_wp2_with (go_at_call 25; refine (len_any lb n T _ H.out).mono ?_; rintro e w' ⟨rfl, rfl⟩)
  go_ret2
  have hB : ∀ o : Obj, Below w.heap.size w (w.alloc o) := fun o => (Below.refl _ w).alloc (Nat.le_refl _) o
  exact ⟨w.heap.size, rfl, Nat.le_refl _, ⟨heap_alloc_new w _, H.out.below (hB _) (Nat.le_refl _), ⟨rfl, Or.inl ⟨rfl, rfl⟩⟩⟩, hB _⟩

/-- A nil log, or one whose lattice is nil and that has no entries. -/
def NoLog (w : World) (v : Value) : Prop := v = .pointer none ∨ ∃ gb, v = .pointer (some ⟨gb, 0, none⟩) ∧ w.cell? ⟨gb, 0, none⟩ = some (.pointer none) ∧ w.cell? ⟨gb, 1, none⟩ = some (.slice none 0 0)

theorem made_0 (v : Value) (w : World) (h : NoLog w v) : Calls Try.prog 26 #[v] w fun e w' => e = .returned (.bool false) ∧ w = w' := by
  rcases h with rfl | ⟨lb, rfl, hc, hc1⟩
  · go_enter Try.func26, Try.ntmps26
    go_wp2
    go_ret
    exact ⟨rfl, rfl⟩
  · go_enter Try.func26, Try.ntmps26
    go_wp2_with (go_at_call 25; refine (len_nil _).mono ?_; rintro e w' ⟨rfl, rfl⟩)
    go_ret
    exact ⟨rfl, rfl⟩

theorem logLabel_0 (v : Value) (a : Int) (w : World) (h : NoLog w v) : Calls Try.prog 27 #[v, .int .i64 a] w fun e w' => e = .returned (.bool false) ∧ w = w' := by
  have H := Lib.hid h; clear h
  go_enter Try.func27, Try.ntmps27
  go_wp2_with (go_at_call 26; refine (made_0 _ _ H.out).mono ?_; rintro e w' ⟨rfl, rfl⟩)
  go_ret
  exact ⟨rfl, rfl⟩

theorem logLen_0 (v : Value) (w : World) (h : NoLog w v) : Calls Try.prog 12 #[v] w fun e w' => e = .returned (.int .i64 0) ∧ w = w' := by
  rcases h with rfl | ⟨lb, rfl, hc, hc1⟩
  all_goals
    go_enter Try.func12, Try.ntmps12
    go_wp2
    go_ret
    exact ⟨rfl, rfl⟩

theorem room_0 (v : Value) (a : Int) (w : World) (h : NoLog w v) : Calls Try.prog 18 #[v, .int .i64 a] w fun e w' => e = .returned (.int .i64 0) ∧ w = w' := by
  have H := Lib.hid h; clear h
  go_enter Try.func18, Try.ntmps18
  go_wp2_with (go_at_call 27; refine (logLabel_0 _ _ _ H.out).mono ?_; rintro e w' ⟨rfl, rfl⟩)
  go_ret
  exact ⟨rfl, rfl⟩

theorem seen_0 (v : Value) (a : Int) (w : World) (h : NoLog w v) : Calls Try.prog 13 #[v, .int .i64 a] w fun e w' => e = .returned (.slice none 0 0) ∧ w = w' := by
  have H := Lib.hid h; clear h
  go_enter Try.func13, Try.ntmps13
  go_wp2_with (go_at_call 26; refine (made_0 _ _ H.out).mono ?_; rintro e w' ⟨rfl, rfl⟩)
  go_ret
  exact ⟨rfl, rfl⟩

theorem put_0 (v : Value) (x : Ent) (w : World) (h : NoLog w v) : Calls Try.prog 9 #[v, x.val] w fun e w' => e = .returned (.int .i64 2) ∧ Below w.heap.size w w' := by
  have H := Lib.hid (show ∀ o : Obj, NoLog (w.alloc o) v by
    intro o
    rcases h with rfl | ⟨gb, rfl, h1, h2⟩
    · exact Or.inl rfl
    · have hlt : gb < w.heap.size := by
        rcases Nat.lt_or_ge gb w.heap.size with h | h
        · exact h
        · simp [World.cell?, Array.getElem?_eq_none h] at h1
      exact Or.inr ⟨gb, rfl, by rw [World.cell?_alloc_lt _ _ _ hlt]; exact h1, by rw [World.cell?_alloc_lt _ _ _ hlt]; exact h2⟩)
  clear h
  unfold Ent.val
  go_enter Try.func9, Try.ntmps9
  go_wp2_with (go_at_call 26; refine (made_0 _ _ (H.out _)).mono ?_; rintro e w' ⟨rfl, rfl⟩)
  go_ret
  exact ⟨rfl, (Below.refl _ w).alloc (Nat.le_refl _) _⟩

def noEnt : Value := .agg #[.int .i64 0, .int .i64 0, .int .i64 0, .string ⟨#[]⟩]

theorem at_0 (v : Value) (i : Int) (w : World) (h : NoLog w v) : Calls Try.prog 20 #[v, .int .i64 i] w fun e w' => e = .returned (.tuple #[noEnt, .bool false]) ∧ Below w.heap.size w w' := by
  have H := Lib.hid (show ∀ o : Obj, NoLog (w.alloc o) v by
    intro o
    rcases h with rfl | ⟨gb, rfl, h1, h2⟩
    · exact Or.inl rfl
    · have hlt : gb < w.heap.size := by
        rcases Nat.lt_or_ge gb w.heap.size with h | h
        · exact h
        · simp [World.cell?, Array.getElem?_eq_none h] at h1
      exact Or.inr ⟨gb, rfl, by rw [World.cell?_alloc_lt _ _ _ hlt]; exact h1, by rw [World.cell?_alloc_lt _ _ _ hlt]; exact h2⟩)
  clear h
  by_cases h0 : i < 0
  · go_enter Try.func20, Try.ntmps20
    go_wp2
    refine bodyPost_ret (v := .tuple #[noEnt, .bool false]) (by simp [results, Try.results20, go_sem, noEnt]) rfl ⟨rfl, ?_⟩
    exact (Below.refl _ w).alloc (Nat.le_refl _) _
  · have hd : decide (i < 0) = false := by simpa using h0
    have hd2 : decide (0 ≤ i) = true := by simp; omega
    go_enter Try.func20, Try.ntmps20
    go_wp2_with (go_at_call 12; refine (logLen_0 _ _ (H.out _)).mono ?_; rintro e w' ⟨rfl, rfl⟩)
    refine bodyPost_ret (v := .tuple #[noEnt, .bool false]) (by simp [results, Try.results20, go_sem, noEnt]) rfl ⟨rfl, ?_⟩
    exact (Below.refl _ w).alloc (Nat.le_refl _) _

theorem logNew_nil (w : World) : Calls Try.prog 7 #[.pointer none] w fun e w' => e = .returned (.tuple #[.pointer none, .int .i64 2]) ∧ w = w' := by
  go_enter Try.func7, Try.ntmps7
  go_wp2_with (go_at_call 25; refine (len_nil _).mono ?_; rintro e w' ⟨rfl, rfl⟩)
  go_ret2
  exact ⟨rfl, rfl⟩
end Go.Proofs.Ytjfonbkeamhnmaa
