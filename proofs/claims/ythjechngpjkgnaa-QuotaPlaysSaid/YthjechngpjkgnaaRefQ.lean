/- Layer 3: the document's own quota: Left, Keys. -/
import Derived.Test.YthjechngpjkgnaaQuoM
import Derived.Test.YthjechngpjkgnaaQuoW
import Derived.Deep.AppendLies
import Derived.Deep.MidRow
namespace Go.Proofs.Ythjechngpjkgnaa
open Go.RowKit Go.Maps Go.ChangeMaps

def Tk.cells (x : Tk) : List Value := [.string x.k, .int .i64 x.n]
def flat (l : List Tk) : List Value := l.flatMap Tk.cells

theorem flat_get (l : List Tk) (k : Nat) (hk : k < l.length) (j : Nat) (hj : j < 2) : (flat l)[k * 2 + j]? = (l[k]).cells[j]? := by
  induction l generalizing k with
  | nil => simp at hk
  | cons a l ih =>
    have e : flat (a :: l) = a.cells ++ flat l := by simp [flat]
    rw [e]
    cases k with
    | zero => rw [List.getElem?_append_left (by simp [Tk.cells]; omega)]; simp
    | succ k =>
      rw [List.getElem?_append_right (by simp [Tk.cells]; omega)]
      have h2 : (k + 1) * 2 + j - a.cells.length = k * 2 + j := by simp [Tk.cells]; omega
      rw [h2, ih k (by simpa using hk)]
      simp

/-- The document's takes: a slice of its own. -/
def Tks (w : World) (base : Nat) (v : Value) (l : List Tk) : Prop := w.ownsRow base 65 2 v l.length (flat l)

/-- The document's quota in memory: its struct, its takes. -/
structure IsR (w : World) (r : Nat) (most : Int) (v : Value) (l : List Tk) : Prop where
  blk : w.heap[r]? = some (.cells #[.int .i64 most, v] 43 (0, 0))
  own : Tks w 0 v l

theorem str_eq (a b : ByteArray) : (a.toList == b.toList) = decide (a = b) := by
  by_cases h : a = b
  · subst h; simp
  · rw [str_ne h]; simp [h]

section
variable {w w' : World} {r : Nat} {most : Int} {v : Value} {l : List Tk}

theorem IsR.cells (h : IsR w r most v l) : w.cell? ⟨r, 0, none⟩ = some (.int .i64 most) ∧ w.cell? ⟨r, 1, none⟩ = some v := by
  refine ⟨?_, ?_⟩ <;> rw [cell_of h.blk] <;> rfl

theorem tks_shape {base : Nat} (h : Tks w base v l) : ∃ A c, v = .slice A l.length c ∧ l.length ≤ 9223372036854775807 ∧ ∀ k (hk : k < l.length), ∃ g, A = some ⟨g, 0, none⟩ ∧ g < w.heap.size ∧ w.cell? ⟨g, k * 2, none⟩ = some (.string (l[k]).k) ∧ w.cell? ⟨g, k * 2 + 1, none⟩ = some (.int .i64 (l[k]).n) := by
  rcases h.2 with ⟨rfl, h0⟩ | ⟨g, cap, cur, rfl, _, hh, hle, hm, hsz, hcur⟩
  · exact ⟨none, 0, by rw [h0], by omega, fun k hk => by omega⟩
  · unfold maxLen at hm
    have key : ∀ k (hk : k < l.length) (j : Nat) (u : Value), (l[k]).cells[j]? = some u → w.cell? ⟨g, k * 2 + j, none⟩ = some u := by
      intro k hk j u hj
      have hj2 : j < 2 := by
        have := (List.getElem?_eq_some_iff.1 hj).1
        simpa [Tk.cells] using this
      have h1 := flat_get l k hk j hj2
      rw [hj, ← hcur, List.getElem?_take] at h1
      rw [cell_of hh]
      split at h1
      · simpa using h1
      · cases h1
    exact ⟨_, cap, rfl, by omega, fun k hk => ⟨g, rfl, lt_of hh, key k hk 0 _ rfl, key k hk 1 _ rfl⟩⟩

theorem tks_block {base : Nat} (h : Tks w base v l) (hk : ∀ g, v.ownBlock = some g → w'.heap[g]? = w.heap[g]?) : Tks w' base v l := by
  refine ⟨h.1, ?_⟩
  rcases h.2 with h2 | ⟨g, cap, cur, rfl, h3, h4, h5⟩
  · exact Or.inl h2
  · exact Or.inr ⟨g, cap, cur, rfl, h3, (hk g rfl).trans h4, h5⟩
theorem tks_lt {base : Nat} (h : Tks w base v l) {g : Nat} (hg : v.ownBlock = some g) : g < w.heap.size := (World.ownsRow.lt h g hg).2

theorem IsR.keep (h : IsR w r most v l) (hr : w'.heap[r]? = w.heap[r]?) (hg : ∀ g, v.ownBlock = some g → w'.heap[g]? = w.heap[g]?) : IsR w' r most v l := ⟨hr.trans h.blk, tks_block h.own hg⟩
theorem IsR.below (h : IsR w r most v l) (hb : Below w.heap.size w w') : IsR w' r most v l := h.keep (hb.block r (lt_of h.blk)) fun g hg => hb.block g (tks_lt h.own hg)
theorem IsR.drewN (h : IsR w r most v l) (j : Nat) : IsR (w.drewN j) r most v l := h.below (below_drew (Below.refl _ _) j)

set_option maxHeartbeats 800000 in
theorem rleft_any (key : ByteArray) (h : IsR w r most v l) (hG : Good l) (hm : tk key l ≤ most ∧ most ≤ 1099511627776) :
    Calls Try.prog 19 #[.pointer (some ⟨r, 0, none⟩), .string key] w fun e w' => e = .returned (.int .i64 (most - tk key l)) ∧ w = w' := by
  obtain ⟨c0, c1⟩ := h.cells
  obtain ⟨A, c, rfl, hl, hr⟩ := tks_shape h.own
  have HR := Lib.hid hr
  have HG := Lib.hid hG
  clear h hr hG
  go_enter Try.func19, Try.ntmps19
  go_wp2
  go_loop [5, 6] (fun n i => ∃ k : Nat, k ≤ l.length ∧ i = .int .i64 k ∧ n = .int .i64 (most - tk key (l.take k))) (fun _ i => l.length - (intOf i).toNat)
  case atStart => exact ⟨0, Nat.zero_le _, rfl, by simp [tk]⟩
  case round =>
    obtain ⟨k, hk, rfl, rfl⟩ := hrel
    have hb := tk_take key l k HG.out
    by_cases hlt : k < l.length
    · obtain ⟨g, rfl, hg, k0, k1⟩ := HR.out k hlt
      have hs := tk_at key l k hlt
      have hb2 := tk_take key l (k + 1) HG.out
      have hn := HG.out l[k] (List.getElem_mem hlt)
      generalize l[k].k = xk at hs k0
      generalize l[k].n = xn at hs k1 hn
      by_cases hx : xk = key
      · subst hx
        rw [if_pos rfl] at hs
        have HS := Lib.hid hs
        have hxn : xn ≤ 1099511627776 := by omega
        clear hs
        go_wp2
        go_round
        case rel => exact ⟨k + 1, by omega, by go_num, by rw [HS.out]; go_num⟩
        case measure => simp [intOf]; omega
      · rw [if_neg hx] at hs
        have HS := Lib.hid hs
        have hq := str_ne hx
        clear hs
        go_wp2
        go_round
        case rel => exact ⟨k + 1, by omega, by go_num, by rw [HS.out]; go_num⟩
        case measure => simp [intOf]; omega
    · have hkn : k = l.length := by omega
      subst hkn
      go_wp2
      go_ret
      exact ⟨rfl, rfl⟩

/-- At the heads of the two loops of Keys. -/
def KeysOut (w : World) (l : List Tk) (n i : Value) (wr : World) : Prop := ∃ k q : Nat, k ≤ l.length ∧ i = .int .i64 k ∧ n = .int .i64 (nkTo l k) ∧ wr = w.drewN q
def firstTo (l : List Tk) (xk : ByteArray) (xn : Int) (j : Nat) : Bool := decide (0 < xn) && !had xk (l.take j)
def KeysIn (w : World) (l : List Tk) (k : Nat) (xk : ByteArray) (xn : Int) (f j : Value) (wr : World) : Prop := ∃ i q : Nat, i ≤ k ∧ j = .int .i64 i ∧ f = .bool (firstTo l xk xn i) ∧ wr = w.drewN q

set_option maxRecDepth 100000 in
set_option maxHeartbeats 1600000 in
theorem rkeys_any (h : IsR w r most v l) (hlen : l.length ≤ 300) :
    Calls Try.prog 21 #[.pointer (some ⟨r, 0, none⟩)] w fun e w' => e = .returned (.int .i64 (nk l)) ∧ ∃ q, w' = w.drewN q := by
  obtain ⟨c0, c1⟩ := h.cells
  obtain ⟨A, c, rfl, hl, hr⟩ := tks_shape h.own
  have HR := Lib.hid hr
  clear h hr c0
  go_enter Try.func21, Try.ntmps21
  go_wp2
  go_loopw [3, 4] (fun n i wr => KeysOut w l n i wr) (fun _ i _ => l.length - (intOf i).toNat)
  case atStart => exact ⟨0, 0, Nat.zero_le _, rfl, rfl, rfl⟩
  case round =>
    obtain ⟨k, q, hk, rfl, rfl, rfl⟩ := hrel
    have hnk := nkTo_le l k
    by_cases hlt : k < l.length
    · obtain ⟨g, rfl, hg, k0, k1⟩ := HR.out k hlt
      have hf : Hid (nkTo l (k + 1) = nkTo l k + if firstTo l (l[k]).k (l[k]).n k then 1 else 0) := Lib.hid (by
        simp only [nkTo, first_at l k hlt]
        rfl)
      generalize l[k].k = xk at hf k0
      generalize l[k].n = xn at hf k1
      go_wp2
      go_loopw [5, 6] (fun f j wr => KeysIn w l k xk xn f j wr) (fun _ j _ => k - (intOf j).toNat)
      case atStart => exact ⟨0, q, Nat.zero_le _, rfl, by simp [firstTo, had], rfl⟩
      case round =>
        obtain ⟨i, q2, hi, rfl, rfl, rfl⟩ := hrel
        by_cases hik : i < k
        · obtain ⟨g2, hg2, _, j0, j1⟩ := HR.out i (by omega)
          injection hg2 with hg2
          injection hg2 with hg2 _ _
          subst hg2
          have hil : i < l.length := by omega
          have hfi : Hid (firstTo l xk xn (i + 1) = (firstTo l xk xn i && !(decide ((l[i]).k = xk) && decide (0 < (l[i]).n)))) := Lib.hid (by
            unfold firstTo
            rw [had_at xk l i hil]
            cases decide (0 < xn) <;> cases had xk (l.take i) <;> simp)
          generalize l[i].k = yk at hfi j0
          generalize l[i].n = yn at hfi j1
          by_cases hx : yk = xk
          · subst hx
            by_cases hy : 0 < yn
            · have HF : Hid (firstTo l yk xn (i + 1) = false) := Lib.hid (by rw [hfi.out]; simp [hy])
              clear hfi
              go_wp2
              go_quiet (fail)
              go_wp2
              go_roundw
              case rel => exact ⟨i + 1, _, by omega, by go_num, by rw [HF.out], rfl⟩
              case measure => simp [intOf]; omega
            · have HF : Hid (firstTo l yk xn (i + 1) = firstTo l yk xn i) := Lib.hid (by rw [hfi.out]; simp [hy])
              have hd : decide (0 < yn) = false := by simpa using hy
              clear hfi
              go_wp2
              go_quiet (fail)
              go_wp2
              go_roundw
              case rel => exact ⟨i + 1, _, by omega, by go_num, by rw [HF.out], rfl⟩
              case measure => simp [intOf]; omega
          · have HF : Hid (firstTo l xk xn (i + 1) = firstTo l xk xn i) := Lib.hid (by rw [hfi.out]; simp [hx])
            have hq := str_ne hx
            clear hfi
            go_wp2
            go_quiet (fail)
            go_wp2
            go_roundw
            case rel => exact ⟨i + 1, _, by omega, by go_num, by rw [HF.out], rfl⟩
            case measure => simp [intOf]; omega
        · obtain rfl : i = k := by omega
          cases hfv : firstTo l xk xn i with
          | true =>
            have HF : Hid (nkTo l (i + 1) = nkTo l i + 1) := Lib.hid (by rw [hf.out, hfv]; rfl)
            clear hf hfv
            go_wp2
            go_roundw
            case rel => exact ⟨i + 1, q2, by omega, by go_num, by rw [HF.out]; go_num, rfl⟩
            case measure => simp [intOf]; omega
          | false =>
            have HF : Hid (nkTo l (i + 1) = nkTo l i) := Lib.hid (by rw [hf.out, hfv]; simp)
            clear hf hfv
            go_wp2
            go_roundw
            case rel => exact ⟨i + 1, q2, by omega, by go_num, by rw [HF.out], rfl⟩
            case measure => simp [intOf]; omega
    · have hkn : k = l.length := by omega
      subst hkn
      go_wp2
      go_ret
      exact ⟨rfl, q, rfl⟩

end
end Go.Proofs.Ythjechngpjkgnaa
