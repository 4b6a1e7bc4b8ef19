/- Layer 14: the program's New, Last, Pop. -/
import Derived.Test.YtpanhkhiomgclaaBaLs
set_option linter.unusedVariables false
namespace Go.Proofs.Ytpanhkhiomgclaa.Ba
open Go.RowKit

theorem turn_of {w w' : World} {p : Nat} {a b c v a' b' c' v' : Value} (hp : w.heap[p]? = some (.cells #[a, b, v, c] 41 (0, 0))) (hp' : w'.heap[p]? = some (.cells #[a', b', v', c'] 41 (0, 0))) (h1 : w'.os = w.os) (h2 : w'.tape = w.tape) (h3 : w'.output = w.output) (hs : w.heap.size ≤ w'.heap.size) (hk : ∀ k, k < w.heap.size → k ≠ p → v.ownBlock ≠ some k → w'.heap[k]? = w.heap[k]?) (ho : ∀ r, v'.ownBlock = some r → v.ownBlock = some r ∨ w.heap.size ≤ r) : TurnB (.pointer (some ⟨p, 0, none⟩)) w w' := by
  refine ⟨h1, h2, h3, hs, fun k hkl hn => hk k hkl (fun e => hn ⟨p, rfl, Or.inl e⟩) (fun e => hn ⟨p, rfl, Or.inr ⟨v, cell_of hp 2, e⟩⟩), fun k hb => ?_⟩
  obtain ⟨q, e, hq⟩ := hb
  cases e
  rcases hq with h | ⟨u, hu, hr⟩
  · exact Or.inl ⟨p, rfl, Or.inl h⟩
  · rw [cell_of hp' 2] at hu
    have e : u = v' := by simpa using hu.symm
    subst e
    rcases ho k hr with h | h
    · exact Or.inl ⟨p, rfl, Or.inr ⟨v, cell_of hp 2, h⟩⟩
    · exact Or.inr h
theorem TurnB.trans {s : Value} {X Y Z : World} (h : TurnB s X Y) (k : TurnB s Y Z) : TurnB s X Z := by
  refine ⟨k.os.trans h.os, k.tape.trans h.tape, k.output.trans h.output, Nat.le_trans h.size k.size, fun i hi hn => ?_, fun i hi => ?_⟩
  · refine (k.block i (Nat.lt_of_lt_of_le hi h.size) fun hy => ?_).trans (h.block i hi hn)
    rcases h.own i hy with h1 | h1
    · exact hn h1
    · omega
  · rcases k.own i hi with h1 | h1
    · exact h.own i h1
    · exact Or.inr (Nat.le_trans h.size h1)
theorem turn_old {s : Value} {w w' : World} (hb : Below w.heap.size w w') (hp : ∀ p, s = .pointer (some ⟨p, 0, none⟩) → p < w.heap.size) : TurnB s w w' := by
  refine ⟨hb.os, hb.tape, hb.output, hb.size, fun k hk _ => hb.block k hk, fun k hk => Or.inl ?_⟩
  obtain ⟨p, rfl, hq⟩ := hk
  exact bk_own (hb.block p (hp p rfl)) ⟨p, rfl, hq⟩
theorem set2 {w : World} {p : Nat} {a b c v : Value} (h : w.heap[p]? = some (.cells #[a, b, v, c] 41 (0, 0))) (u : Value) : (w.setCell ⟨p, 2, none⟩ u).heap[p]? = some (.cells #[a, b, u, c] 41 (0, 0)) := by have := heap_setCell_same w p 2 _ _ u h; simpa using this
theorem set3 {w : World} {p : Nat} {a b c v : Value} (h : w.heap[p]? = some (.cells #[a, b, v, c] 41 (0, 0))) (u : Value) : (w.setCell ⟨p, 3, none⟩ u).heap[p]? = some (.cells #[a, b, v, u] 41 (0, 0)) := by have := heap_setCell_same w p 3 _ _ u h; simpa using this
/-- A Delete in the things, and what it answers stored. -/
theorem del_store {V V1 : World} {p n m c : Nat} {A : Option Addr} {a b g : Value} {l' : List Int} (hp : V.heap[p]? = some (.cells #[a, b, .slice A n c, g] 41 (0, 0))) (hr : ∀ r, (Value.slice A n c).ownBlock = some r → r ≠ p) (ho : WinI V1 0 (.slice A m c) l') (ht : TurnK (Value.slice A n c).ownBlock V V1) :
    V1.heap[p]? = some (.cells #[a, b, .slice A n c, g] 41 (0, 0)) ∧ (V1.setCell ⟨p, 2, none⟩ (.slice A m c)).heap[p]? = some (.cells #[a, b, .slice A m c, g] 41 (0, 0)) ∧ WinI (V1.setCell ⟨p, 2, none⟩ (.slice A m c)) 0 (.slice A m c) l' ∧ (∀ r, (Value.slice A m c).ownBlock = some r → r ≠ p) ∧ TurnB (.pointer (some ⟨p, 0, none⟩)) V (V1.setCell ⟨p, 2, none⟩ (.slice A m c)) := by
  have hob : (Value.slice A m c).ownBlock = (Value.slice A n c).ownBlock := by cases A <;> rfl
  have hp1 : V1.heap[p]? = _ := (ht.block p fun e => hr p e rfl).trans hp
  have hp2 := set2 hp1 (.slice A m c)
  have hne : ∀ r, (Value.slice A m c).ownBlock = some r → r ≠ p := fun r e => hr r (hob ▸ e)
  refine ⟨hp1, hp2, winI_keep ho fun r e => Below.heap_setCell _ _ _ _ (hne r e), hne, turn_of hp hp2 ht.os ht.tape ht.output (by simp [ht.size]) (fun k hk hkp hn => ?_) fun r e => Or.inl (hob ▸ e)⟩
  rw [Below.heap_setCell _ _ _ _ hkp]
  exact ht.block k hn
set_option maxRecDepth 100000 in
set_option maxHeartbeats 1000000 in
theorem new_any (m : Int) (w : World) (hm : IntIn m) : Calls Try.prog 9 #[.int .i64 m] w (NewPost w m) := by
  by_cases h : 0 ≤ m ∧ m ≤ 500
  · obtain ⟨M, rfl⟩ : ∃ M : Nat, m = (M : Int) := ⟨m.toNat, by omega⟩
    have hn : newB (M : Int) = true := by unfold newB; simp; omega
    have g1 : decide ((M : Int) < 0) = false := by simp
    have g2 : decide ((M : Int) > 500) = false := by simp; omega
    have HE : Hid (NewPost w (M : Int) (.returned (.tuple #[.pointer (some ⟨w.heap.size, 0, none⟩), .int .i64 0])) (w.alloc (.cells #[.bool true, .int .i64 (M : Int), .slice none 0 0, .int .i64 0] 41 (0, 0)))) := Lib.hid (by
      have hp := heap_new w (.cells #[.bool true, .int .i64 (M : Int), .slice none 0 0, .int .i64 0] 41 (0, 0))
      refine ⟨(Below.refl _ _).alloc (Nat.le_refl _) _, ?_⟩
      rw [if_pos hn]
      refine ⟨_, rfl, ⟨_, _, rfl, by rw [Int.toNat_natCast]; exact hp, winI_none _ _, fun r e => by simp [Value.ownBlock] at e, Nat.zero_le _, by rw [Int.toNat_natCast]; omega⟩, fun k hk => ?_⟩
      obtain ⟨q, e, hq⟩ := hk
      cases e
      rcases hq with rfl | ⟨u, hu, hr⟩
      · exact Nat.le_refl _
      · rw [cell_of hp 2] at hu
        have e : u = .slice none 0 0 := by simpa using hu.symm
        subst e
        simp [Value.ownBlock] at hr)
    clear h hn
    go_enter Try.func9, Try.ntmps9
    go_wp2
    go_ret2
    exact HE.out
  · have hn : newB m = false := by unfold newB; simp; omega
    have HE : Hid (NewPost w m (.returned (.tuple #[.pointer none, .int .i64 1])) w) := Lib.hid ⟨Below.refl _ _, by rw [hn, if_neg (by decide)]⟩
    have hg : decide (m < 0) = true ∨ decide (m < 0) = false ∧ decide (m > 500) = true := by
      by_cases h0 : m < 0
      · exact Or.inl (by simpa using h0)
      · exact Or.inr ⟨by simpa using h0, by simp; omega⟩
    clear h hn
    rcases hg with g1 | ⟨g1, g2⟩
    all_goals
      go_enter Try.func9, Try.ntmps9
      go_wp2
      go_ret2
      exact HE.out
section
variable {w : World} {s : Value} {M G : Nat} {L : List Int} (h : BkAt w s M G L)
include h
theorem last_any (n : Int) (hn : IntIn n) : Calls Try.prog 18 #[s, .int .i64 n] w fun e w' => ∃ v, e = .returned v ∧ OwnI w' w.heap.size v (lastV L n) ∧ Below w.heap.size w w' := by
  obtain ⟨p, rfl⟩ := h.ptr
  have hcap := h.cap
  exact last_run _ L n (Or.inl hn) (by omega) w (fun V hV => len_any (h.below hV)) (fun V hV => All_any (h.below hV))
set_option maxRecDepth 100000 in
set_option maxHeartbeats 1000000 in
theorem pop_any : Calls Try.prog 12 #[s] w fun e w' => e = .returned (.tuple #[.int .i64 (popX L), .bool (someB L)]) ∧ BkAt w' s M G L.dropLast ∧ TurnB s w w' := by
  have K := Lib.hid (len_any h)
  have hcap := h.cap
  have hlt : ∀ p, s = .pointer (some ⟨p, 0, none⟩) → p < w.heap.size := fun p e => h.lt p (by rw [e]; exact ⟨p, rfl, Or.inl rfl⟩)
  have hat : ∀ V, Below w.heap.size w V → ∀ i, IntIn i → Calls Try.prog 14 #[s, .int .i64 i] V fun e w' => e = .returned (.tuple #[.int .i64 (atX L i), .bool (atB L i)]) ∧ Below w.heap.size w w' := fun V hV i hi => (at_any (h.below hV) i hi).mono fun e w' ⟨he, hb⟩ => ⟨he, hV.trans (hb.mono hV.size)⟩
  have hbl := fun w' (hb : Below w.heap.size w w') => h.below hb
  by_cases h0 : L.length = 0
  · have hnil : L = [] := List.eq_nil_of_length_eq_zero h0
    subst hnil
    have z1 : IntKind.i64.wrap (((([] : List Int).length : Nat) : Int) - 1) = -1 := by rfl
    have K2 := Lib.hid fun V hV => hat V hV (-1) ⟨by omega, by omega⟩
    have HE := Lib.hid fun w' (hb : Below w.heap.size w w') => And.intro (hbl w' hb) (turn_old hb hlt)
    clear hat hbl h hlt hcap h0
    go_enter Try.func12, Try.ntmps12
    go_wp2_with fail
    refine (show Calls _ _ _ _ _ from K.out).mono ?_
    rintro e w1 ⟨rfl, hb1⟩
    go_wp2_with fail
    refine (show Calls _ _ _ _ _ from K2.out w1 hb1).mono ?_
    rintro e w2 ⟨rfl, hb2⟩
    go_wp2
    go_ret2
    exact ⟨rfl, HE.out w2 hb2⟩
  · obtain ⟨X, hX⟩ : ∃ X, L.length = X + 1 := ⟨L.length - 1, by omega⟩
    have z1 : IntKind.i64.wrap ((L.length : Int) - 1) = (X : Int) := by rw [IntWalk.i64_in _ (by omega)]; omega
    have hay : atB L (X : Int) = true := by unfold atB; simp; omega
    have hax : atX L (X : Int) = popX L := by unfold atX popX; rw [if_pos (by omega), Int.toNat_natCast, show L.length - 1 = X by omega]
    have hso : someB L = true := by unfold someB; simp; omega
    have K2 := Lib.hid fun V hV => hat V hV (X : Int) ⟨by omega, by omega⟩
    rw [hay, hax] at K2
    rw [hso]
    have hdl : L.take X ++ L.drop (X + 1) = L.dropLast := by rw [List.drop_eq_nil_of_le (by omega), List.append_nil, List.dropLast_eq_take, hX]; rfl
    have hll : L.dropLast.length = X := by rw [List.length_dropLast]; omega
    have HD := Lib.hid (And.intro hdl (And.intro hll hcap))
    have HB := Lib.hid hbl
    have HX := Lib.hid hX
    have HT := Lib.hid hlt
    have z2 : IntKind.i64.wrap ((X : Int) + 1) = ((X + 1 : Nat) : Int) := by rw [IntWalk.i64_in _ (by omega)]; omega
    generalize popX L = Y at *
    clear hat hbl h hlt hcap h0 hay hax hso hdl hll hX
    go_enter Try.func12, Try.ntmps12
    go_wp2_with fail
    refine (show Calls _ _ _ _ _ from K.out).mono ?_
    rintro e w1 ⟨rfl, hb1⟩
    go_wp2_with fail
    refine (show Calls _ _ _ _ _ from K2.out w1 hb1).mono ?_
    rintro e w2 ⟨rfl, hb2⟩
    have hbk := HB.out w2 hb2
    have hT := turn_old hb2 HT.out
    obtain ⟨p, A, c, rfl, hp, ho, hr, hcap⟩ := hbk.open_
    have hd := delete_any ho X (X + 1) (by omega) (by have := HX.out; omega) (by have := HX.out; omega)
    have c2 := cell_of hp 2
    have HP := Lib.hid hp
    have HR := Lib.hid hr
    have HTw := Lib.hid hT
    rw [HD.out.1] at hd
    have hn' : L.length - (X + 1 - X) = X := by have := HX.out; omega
    rw [hn'] at hd
    have KD := Lib.hid hd
    clear hd hp ho hr hcap hT hbk hb1 hb2 K K2 HB HT
    go_wp2_with fail
    refine (show Calls _ _ _ _ _ from KD.out).mono ?_
    rintro e w3 ⟨rfl, ho3, ht3⟩
    obtain ⟨hp3, hp4, ho4, hr4, ht4⟩ := del_store HP.out HR.out ho3 ht3
    have f2 := free_of hp3 2
    have c2' := cell_of hp3 2
    have HE : Hid (BkAt (w3.setCell ⟨p, 2, none⟩ (.slice A X c)) (.pointer (some ⟨p, 0, none⟩)) M G L.dropLast ∧ TurnB (.pointer (some ⟨p, 0, none⟩)) w (w3.setCell ⟨p, 2, none⟩ (.slice A X c))) := Lib.hid ⟨⟨p, _, rfl, hp4, ho4, hr4, by rw [HD.out.2.1]; have := HD.out.2.2; have := HX.out; omega, HD.out.2.2.2⟩, HTw.out.trans ht4⟩
    clear hp3 hp4 ho4 hr4 ht4 ho3 ht3
    go_wp2
    go_ret2
    exact ⟨rfl, HE.out⟩
end
end Go.Proofs.Ytpanhkhiomgclaa.Ba
