/- Layer 8: events read out of slices; sameAll. -/
import Derived.Test.YtfekjlajagoooaaDoorEpO
import Derived.Deep.RegionHeld3
namespace Go.Proofs.YtfekjlajagoooaaDoor
open Go.RowKit Ev

theorem flat_six : ∀ (ls : List (List Value)), (∀ l ∈ ls, l.length = 6) → ∀ k j, j < 6 → ls.flatten[k * 6 + j]? = (ls[k]?).bind fun l => l[j]?
  | [], _, k, j, _ => by simp
  | l :: ls, h, 0, j, hj => by
    have hl : l.length = 6 := h l List.mem_cons_self
    rw [Nat.zero_mul, Nat.zero_add, List.flatten_cons, List.getElem?_append_left (by omega)]
    rfl
  | l :: ls, h, k + 1, j, hj => by
    have hl : l.length = 6 := h l List.mem_cons_self
    rw [List.flatten_cons, List.getElem?_append_right (by omega), hl, show (k + 1) * 6 + j - 6 = k * 6 + j by omega, flat_six ls (fun x hx => h x (List.mem_cons_of_mem _ hx)) k j hj]
    simp
theorem evs_six {w : World} : ∀ {L : List EV} {ls : List (List Value)}, Evs w L ls → ∀ l ∈ ls, l.length = 6
  | [], [], _, _, h => by cases h
  | e :: L, l :: ls, h, x, hx => by
    rcases List.mem_cons.1 hx with rfl | hx
    · exact h.1.len
    · exact evs_six h.2 x hx
  | [], _ :: _, h, _, _ => h.elim
  | _ :: _, [], h, _, _ => h.elim
theorem evs_get {w : World} : ∀ {L : List EV} {ls : List (List Value)}, Evs w L ls → ∀ k (hk : k < L.length), ∃ l, ls[k]? = some l ∧ IsEv w L[k] l
  | e :: L, l :: ls, h, 0, _ => ⟨l, rfl, h.1⟩
  | e :: L, l :: ls, h, k + 1, hk => by
    obtain ⟨x, h1, h2⟩ := evs_get h.2 k (by simpa using hk)
    exact ⟨x, by simpa using h1, h2⟩
  | [], _, _, _, hk => absurd hk (by simp)
  | _ :: _, [], h, _, _ => h.elim

def lenP (l : List (List Nat)) (r : Nat) : Nat := (l.getD r []).length
def valP (l : List (List Nat)) (r c : Nat) : Int := ((l.getD r []).getD c 0 : Nat)
/-- An event stands at element k of block g. -/
def EvAt (w : World) (g k : Nat) (e : EV) : Prop := ∃ A c, (w.cell? ⟨g, k * 6, none⟩ = some (.int .i64 e.kind) ∧ w.cell? ⟨g, k * 6 + 1, none⟩ = some (.int .i32 e.rune) ∧ w.cell? ⟨g, k * 6 + 2, none⟩ = some (.int .u8 e.final) ∧ w.cell? ⟨g, k * 6 + 3, none⟩ = some (.string (strK e.mids)) ∧ w.cell? ⟨g, k * 6 + 4, none⟩ = some (.slice A e.params.length c) ∧ w.cell? ⟨g, k * 6 + 5, none⟩ = some (.string (strK e.text))) ∧ GridW w A e.params.length (lenP e.params) (valP e.params)
/-- The slice at A reads as these events. -/
def Reads (w : World) (A : Option Addr) (L : List EV) : Prop := ∀ k (hk : k < L.length), ∃ g, A = some ⟨g, 0, none⟩ ∧ EvAt w g k L[k]

theorem EvAt.below {w w' : World} {g k : Nat} {e : EV} (h : EvAt w g k e) (hb : Below w.heap.size w w') : EvAt w' g k e := by
  obtain ⟨A, c, ⟨h0, h1, h2, h3, h4, h5⟩, hg⟩ := h
  exact ⟨A, c, ⟨(hb.cell (cell_lt h0)).trans h0, (hb.cell (cell_lt h1)).trans h1, (hb.cell (cell_lt h2)).trans h2, (hb.cell (cell_lt h3)).trans h3, (hb.cell (cell_lt h4)).trans h4, (hb.cell (cell_lt h5)).trans h5⟩, hg.below hb⟩
theorem Reads.below {w w' : World} {A : Option Addr} {L : List EV} (h : Reads w A L) (hb : Below w.heap.size w w') : Reads w' A L := fun k hk => by
  obtain ⟨g, e, hx⟩ := h k hk
  exact ⟨g, e, hx.below hb⟩

theorem tab_grid {w : World} {A : Option Addr} {l : List (List Nat)} (h : P7.TabT w A l) (hl : ∀ q ∈ l, q.length ≤ 1000) : GridW w A l.length (lenP l) (valP l) := fun r hr => by
  obtain ⟨g, rfl, _, hrow⟩ := h (by omega)
  obtain ⟨A', c, e1, e2⟩ := hrow r hr
  refine ⟨⟨g, 0, none⟩, A', c, rfl, by rw [P7.add_zero]; exact e1, ?_, fun j hj => ?_⟩
  · have := hl _ (P7.getD_mem l r [] hr)
    show (l.getD r []).length ≤ _
    omega
  · obtain ⟨a', f1, _, f3⟩ := e2.row j hj
    exact ⟨a', f1, f3⟩
theorem Told.reads {w : World} {base : Nat} {T : TypeId} {A : Option Addr} {n c : Nat} {L : List EV} (h : Told w base T (.slice A n c) L) (hp : ∀ e ∈ L, ∀ q ∈ e.params, q.length ≤ 1000) : Reads w A L := fun k hk => by
  obtain ⟨ls, h1, h2⟩ := h
  obtain ⟨l, h3, A1, c1, e1, e2⟩ := evs_get h1 k hk
  have hsix := evs_six h1
  have hown := h2
  rcases h2.2 with ⟨e, h0⟩ | ⟨g, cap, cur, e, _⟩
  · omega
  · cases e
    refine ⟨g, rfl, A1, c1, ?_, tab_grid e2 (hp _ (List.getElem_mem hk))⟩
    have hc : ∀ j u, j < 6 → l[j]? = some u → w.cell? ⟨g, k * 6 + j, none⟩ = some u := fun j u hj hu => by
      have := World.ownsRow.cells (w := w) hown (g := g) rfl (k * 6 + j) u (by rw [flat_six ls hsix k j hj, h3]; exact hu)
      rwa [P7.add_zero] at this
    subst e1
    exact ⟨hc 0 _ (by omega) rfl, hc 1 _ (by omega) rfl, hc 2 _ (by omega) rfl, hc 3 _ (by omega) rfl, hc 4 _ (by omega) rfl, hc 5 _ (by omega) rfl⟩

theorem rowB_self (n : Nat) (f : Nat → Int) : ∀ d k, n - k = d → rowB n f f k = true
  | 0, k, h => rowB_end (by omega)
  | d + 1, k, h => by rw [rowB_go (by omega) rfl]; exact rowB_self n f d (k + 1) (by omega)
theorem rowsB_self (n : Nat) (f : Nat → Int) : rowsB n n f f = true := by simp [rowsB, rowB_self n f _ 0 rfl]
theorem gridB_self (n : Nat) (L : Nat → Nat) (T : Nat → Nat → Int) : ∀ d k, n - k = d → gridB n L L T T k = true
  | 0, k, h => gridB_end (by omega)
  | d + 1, k, h => by rw [gridB_go (by omega) (rowsB_self _ _)]; exact gridB_self n L T d (k + 1) (by omega)
theorem gridsB_self (n : Nat) (L : Nat → Nat) (T : Nat → Nat → Int) : gridsB n n L L T T = true := by simp [gridsB, gridB_self n L T _ 0 rfl]
theorem sameV_self (k r f : Int) (m t : ByteArray) (n : Nat) (L : Nat → Nat) (T : Nat → Nat → Int) : sameV k k r r f f m m t t (gridsB n n L L T T) = true := by simp [sameV, gridsB_self]

/-- Same of two events that read alike. -/
theorem same_yes {w : World} {e : EV} {A B : Option Addr} (c d : Nat) (hn : e.params.length ≤ 1000000) (h : GridW w A e.params.length (lenP e.params) (valP e.params)) (h' : GridW w B e.params.length (lenP e.params) (valP e.params)) :
    Calls Tryd.prog 16 #[.agg #[.int .i64 e.kind, .int .i32 e.rune, .int .u8 e.final, .string (strK e.mids), .slice A e.params.length c, .string (strK e.text)], .agg #[.int .i64 e.kind, .int .i32 e.rune, .int .u8 e.final, .string (strK e.mids), .slice B e.params.length d, .string (strK e.text)]] w fun x w' => x = .returned (.bool true) ∧ Below w.heap.size w w' := by
  refine (same_any _ _ _ _ _ _ _ _ _ _ c d (by omega) (by omega) h h').mono ?_
  rintro x w' ⟨rfl, hb⟩
  exact ⟨by rw [sameV_self], hb⟩

set_option maxHeartbeats 400000 in
theorem sameAll_yes {w : World} {A B : Option Addr} {L : List EV} (n c d : Nat) (hnL : n = L.length) (hn : n ≤ 100000) (hp : ∀ e ∈ L, e.params.length ≤ 1000000) (h : Reads w A L) (h' : Reads w B L) :
    Calls Tryd.prog 24 #[.slice A n c, .slice B n d] w fun x w' => x = .returned (.bool true) ∧ Below w.heap.size w w' := by
  have HA := Lib.hid h
  have HB := Lib.hid h'
  have HP := Lib.hid hp
  have HN := Lib.hid hnL
  clear h h' hp hnL
  go_enter Tryd.func24, Tryd.ntmps24
  go_wp2
  go_loopw [5] (fun i wr => ∃ k : Nat, k ≤ n ∧ i = .int .i64 k ∧ Hid (Below w.heap.size w wr)) (fun i _ => n - (RowKit.intOf i).toNat)
  case atStart => exact ⟨0, Nat.zero_le _, rfl, Lib.hid (Below.refl _ _)⟩
  case round =>
    obtain ⟨k, hk, rfl, HBl⟩ := hrel
    by_cases hlt : k < n
    · have hlt' : k < L.length := by rw [← HN.out]; exact hlt
      obtain ⟨g, rfl, hga⟩ := (HA.out.below HBl.out) k hlt'
      obtain ⟨g', rfl, hgb⟩ := (HB.out.below HBl.out) k hlt'
      obtain ⟨A1, c1, ⟨a0, a1, a2, a3, a4, a5⟩, ga⟩ := hga
      obtain ⟨A2, c2, ⟨b0, b1, b2, b3, b4, b5⟩, gb⟩ := hgb
      have hpe := HP.out _ (List.getElem_mem hlt')
      generalize L[k] = x at *
      have HS : Hid (∀ W, Below wr.heap.size wr W → Calls Tryd.prog 16 #[.agg #[.int .i64 x.kind, .int .i32 x.rune, .int .u8 x.final, .string (strK x.mids), .slice A1 x.params.length c1, .string (strK x.text)], .agg #[.int .i64 x.kind, .int .i32 x.rune, .int .u8 x.final, .string (strK x.mids), .slice A2 x.params.length c2, .string (strK x.text)]] W fun x w' => x = .returned (.bool true) ∧ Below wr.heap.size wr w') := Lib.hid fun W hW => (same_yes c1 c2 hpe (ga.below hW) (gb.below hW)).mono fun _ _ hx => ⟨hx.1, hW.trans (hx.2.mono hW.size)⟩
      have HCell : Hid (∀ W, Below wr.heap.size wr W → (W.cell? ⟨g, k * 6, none⟩ = some (.int .i64 x.kind) ∧ W.cell? ⟨g, k * 6 + 1, none⟩ = some (.int .i32 x.rune) ∧ W.cell? ⟨g, k * 6 + 2, none⟩ = some (.int .u8 x.final) ∧ W.cell? ⟨g, k * 6 + 3, none⟩ = some (.string (strK x.mids)) ∧ W.cell? ⟨g, k * 6 + 4, none⟩ = some (.slice A1 x.params.length c1) ∧ W.cell? ⟨g, k * 6 + 5, none⟩ = some (.string (strK x.text))) ∧ (W.cell? ⟨g', k * 6, none⟩ = some (.int .i64 x.kind) ∧ W.cell? ⟨g', k * 6 + 1, none⟩ = some (.int .i32 x.rune) ∧ W.cell? ⟨g', k * 6 + 2, none⟩ = some (.int .u8 x.final) ∧ W.cell? ⟨g', k * 6 + 3, none⟩ = some (.string (strK x.mids)) ∧ W.cell? ⟨g', k * 6 + 4, none⟩ = some (.slice A2 x.params.length c2) ∧ W.cell? ⟨g', k * 6 + 5, none⟩ = some (.string (strK x.text)))) := Lib.hid fun W hW =>
        ⟨⟨(hW.cell (cell_lt a0)).trans a0, (hW.cell (cell_lt a1)).trans a1, (hW.cell (cell_lt a2)).trans a2, (hW.cell (cell_lt a3)).trans a3, (hW.cell (cell_lt a4)).trans a4, (hW.cell (cell_lt a5)).trans a5⟩, (hW.cell (cell_lt b0)).trans b0, (hW.cell (cell_lt b1)).trans b1, (hW.cell (cell_lt b2)).trans b2, (hW.cell (cell_lt b3)).trans b3, (hW.cell (cell_lt b4)).trans b4, (hW.cell (cell_lt b5)).trans b5⟩
      have k0 : Below wr.heap.size wr wr.drew := below_drew (Below.refl _ _) 1
      obtain ⟨m, hm⟩ : ∃ m, m = x.params.length := ⟨_, rfl⟩
      rw [← hm] at a4 b4 HS HCell
      clear ga gb hpe hm
      go_wp2_with fail
      go_region_held3 (fun W => (W.cell? ⟨g, k * 6, none⟩ = some (.int .i64 x.kind) ∧ W.cell? ⟨g, k * 6 + 1, none⟩ = some (.int .i32 x.rune) ∧ W.cell? ⟨g, k * 6 + 2, none⟩ = some (.int .u8 x.final) ∧ W.cell? ⟨g, k * 6 + 3, none⟩ = some (.string (strK x.mids)) ∧ W.cell? ⟨g, k * 6 + 4, none⟩ = some (.slice A1 m c1) ∧ W.cell? ⟨g, k * 6 + 5, none⟩ = some (.string (strK x.text))) ∧ (W.cell? ⟨g', k * 6, none⟩ = some (.int .i64 x.kind) ∧ W.cell? ⟨g', k * 6 + 1, none⟩ = some (.int .i32 x.rune) ∧ W.cell? ⟨g', k * 6 + 2, none⟩ = some (.int .u8 x.final) ∧ W.cell? ⟨g', k * 6 + 3, none⟩ = some (.string (strK x.mids)) ∧ W.cell? ⟨g', k * 6 + 4, none⟩ = some (.slice A2 m c2) ∧ W.cell? ⟨g', k * 6 + 5, none⟩ = some (.string (strK x.text))))
        (first | exact HCell.out _ k1 | exact HCell.out _ k0 | go_keep)
        (first | (go_at_call 16; (with_reducible refine (HS.out _ k0).mono ?_); rintro e w4 ⟨rfl, k1⟩))
      have HB4 := Lib.hid (HBl.out.trans (k1.mono HBl.out.size))
      clear k1 HS HCell a0 a1 a2 a3 a4 a5 b0 b1 b2 b3 b4 b5
      go_wp2
      go_roundw
      case rel => exact ⟨k + 1, by omega, by go_num, HB4⟩
      case measure => simp [RowKit.intOf]; omega
    · have hkn : k = n := by omega
      subst hkn
      go_wp2
      go_ret
      exact ⟨rfl, HBl.out⟩
end Go.Proofs.YtfekjlajagoooaaDoor
