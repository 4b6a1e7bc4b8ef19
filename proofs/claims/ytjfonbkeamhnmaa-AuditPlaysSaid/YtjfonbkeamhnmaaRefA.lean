/- Layer 2: the document's own log: label, Room, Seen. -/
import Derived.Test.YtjfonbkeamhnmaaDocA
import Derived.Test.YtjfonbkeamhnmaaAudG
namespace Go.Proofs.Ytjfonbkeamhnmaa
open Go.RowKit Lat

/-- The document's entries: a slice of its own. -/
def REnts (w : World) (base : Nat) (v : Value) (l : List Ent) : Prop := w.ownsRow base 46 4 v l.length (flat l)

/-- The document's log in memory: its struct, its table (which lies below block B), its entries. -/
structure IsRef (w : World) (B rb : Nat) (A : Option Addr) (n cap : Nat) (T : Nat → Nat → Bool) (v : Value) (l : List Ent) : Prop where
  blk : w.heap[rb]? = some (.cells #[.slice A n cap, v] 44 (0, 0))
  sq : Sq w B A n T
  own : REnts w 0 v l

section
variable {w w' : World} {B rb n cap : Nat} {A : Option Addr} {T : Nat → Nat → Bool} {v : Value} {l : List Ent}

theorem IsRef.cells (h : IsRef w B rb A n cap T v l) : w.cell? ⟨rb, 0, none⟩ = some (.slice A n cap) ∧ w.cell? ⟨rb, 1, none⟩ = some v := by
  refine ⟨?_, ?_⟩ <;> rw [cell_of h.blk] <;> rfl

theorem rents_shape {base : Nat} (h : REnts w base v l) : ∃ A c, v = .slice A l.length c ∧ l.length ≤ 9223372036854775807 ∧ ∀ k (hk : k < l.length), ∃ g, A = some ⟨g, 0, none⟩ ∧ g < w.heap.size ∧ w.rangeAt g (k * 4) (l[k]).cells := by
  rcases h.2 with ⟨rfl, h0⟩ | ⟨g, cap, cur, rfl, _, hh, hle, hm, hsz, hcur⟩
  · exact ⟨none, 0, by rw [h0], by omega, fun k hk => by omega⟩
  · unfold maxLen at hm
    refine ⟨_, cap, rfl, by omega, fun k hk => ⟨g, rfl, lt_of hh, ?_⟩⟩
    intro j u hj
    have hj4 : j < 4 := by
      have := (List.getElem?_eq_some_iff.1 hj).1
      simpa [Ent.cells] using this
    have h1 := flat_get l k hk j hj4
    rw [hj, ← hcur, List.getElem?_take] at h1
    rw [cell_of hh]
    split at h1
    · simpa using h1
    · cases h1

theorem rents_block {base : Nat} (h : REnts w base v l) (hk : ∀ g, v.ownBlock = some g → w'.heap[g]? = w.heap[g]?) : REnts w' base v l := by
  refine ⟨h.1, ?_⟩
  rcases h.2 with h2 | ⟨g, cap, cur, rfl, h3, h4, h5⟩
  · exact Or.inl h2
  · exact Or.inr ⟨g, cap, cur, rfl, h3, (hk g rfl).trans h4, h5⟩
theorem rents_lt {base : Nat} (h : REnts w base v l) {g : Nat} (hg : v.ownBlock = some g) : g < w.heap.size := (World.ownsRow.lt h g hg).2
theorem rents_ge {base : Nat} (h : REnts w base v l) : ∀ g, v.ownBlock = some g → base ≤ g := fun g hg => (World.ownsRow.lt h g hg).1
theorem IsRef.below (h : IsRef w B rb A n cap T v l) {C : Nat} (hb : Below C w w') (hC : w.heap.size ≤ C) (hBC : B ≤ C) : IsRef w' B rb A n cap T v l :=
  ⟨(hb.block rb (Nat.lt_of_lt_of_le (lt_of h.blk) hC)).trans h.blk, h.sq.below (hb.mono hBC), rents_block h.own fun g hg => hb.block g (Nat.lt_of_lt_of_le (rents_lt h.own hg) hC)⟩
theorem IsRef.alloc (h : IsRef w B rb A n cap T v l) (hB : B ≤ w.heap.size) (o : Obj) : IsRef (w.alloc o) B rb A n cap T v l := h.below ((Below.refl _ w).alloc (Nat.le_refl _) o) (Nat.le_refl _) hB
theorem rents_snoc {base : Nat} {x : Ent} {m : Nat} (hm : m = l.length + 1) (h : w.ownsRow base 46 4 v m (flat l ++ x.cells)) : REnts w base v (l ++ [x]) := by
  subst hm
  unfold REnts
  rw [show (l ++ [x]).length = l.length + 1 by simp, show flat (l ++ [x]) = flat l ++ x.cells by simp [flat]]
  exact h

theorem rlabel_any (a : Int) (h : IsRef w B rb A n cap T v l) :
    Calls Try.prog 41 #[.pointer (some ⟨rb, 0, none⟩), .int .i64 a] w fun e w' => e = .returned (.bool (isLabel n a)) ∧ w = w' := by
  have c0 := h.cells.1
  have hle := h.sq.le
  clear h
  by_cases h0 : 0 ≤ a
  · have E1 := Lib.hid (show isLabel n a = decide (a < n) by simp [isLabel, h0])
    go_enter Try.func41, Try.ntmps41
    go_wp2
    go_ret
    exact ⟨ret_bool (by rw [E1.out]), rfl⟩
  · have E1 := Lib.hid (show isLabel n a = false by simp [isLabel, h0])
    have hd : decide (0 ≤ a) = false := by simpa using h0
    go_enter Try.func41, Try.ntmps41
    go_wp2
    go_ret
    exact ⟨ret_bool (by rw [E1.out]), rfl⟩

set_option maxHeartbeats 1000000 in
theorem rroom_any (b : Int) (h : IsRef w B rb A n cap T v l) :
    Calls Try.prog 19 #[.pointer (some ⟨rb, 0, none⟩), .int .i64 b] w fun e w' => e = .returned (.int .i64 (roomV n l b)) ∧ w = w' := by
  have H := Lib.hid h
  have c1 := h.cells.2
  obtain ⟨A', c, rfl, hm, hr⟩ := rents_shape h.own
  have HR := Lib.hid hr
  clear h hr
  cases hb : isLabel n b
  · have E := Lib.hid (show roomV n l b = 0 by simp [roomV, hb])
    go_enter Try.func19, Try.ntmps19
    go_wp2_with (go_at_call 41; refine (rlabel_any _ H.out).mono ?_; rintro e w' ⟨rfl, rfl⟩)
    go_ret
    exact ⟨ret_int E.out.symm, rfl⟩
  · have E := Lib.hid (show roomV n l b = 16 - (cnt b l : Int) by simp [roomV, hb])
    go_enter Try.func19, Try.ntmps19
    go_wp2_with (go_at_call 41; refine (rlabel_any _ H.out).mono ?_; rintro e w' ⟨rfl, rfl⟩)
    go_loop [5, 6] (fun r i => ∃ k : Nat, k ≤ l.length ∧ i = .int .i64 k ∧ r = .int .i64 (16 - (cnt b (l.take k) : Int))) (fun _ i => l.length - (intOf i).toNat)
    case atStart => exact ⟨0, Nat.zero_le _, rfl, by simp [cnt]⟩
    case round =>
      obtain ⟨k, hk, rfl, rfl⟩ := hrel
      by_cases hlt : k < l.length
      · obtain ⟨g, rfl, hg, hra⟩ := HR.out k hlt
        have hcl : cnt b (l.take k) ≤ k := Nat.le_trans (cnt_le _ _) (List.length_take_le _ _)
        have hs := cnt_snoc b (l.take k) l[k]
        rw [← take_snoc' l k hlt] at hs
        generalize l[k] = x at hs hra
        obtain ⟨xb, xf, xt, xs⟩ := x
        have HS := Lib.hid hs
        have k0 := hra 0 _ rfl
        simp only [Nat.add_zero] at k0
        clear hra hs
        cases hxb : (xb == b)
        · have HS' := Lib.hid (show cnt b (l.take (k + 1)) = cnt b (l.take k) by rw [HS.out, hxb]; simp)
          go_wp2
          go_round
          case rel => exact ⟨k + 1, by omega, by go_num, by rw [HS'.out]⟩
          case measure => simp [intOf]; omega
        · have HS' := Lib.hid (show cnt b (l.take (k + 1)) = cnt b (l.take k) + 1 by rw [HS.out, hxb]; simp)
          go_wp2
          go_round
          case rel => exact ⟨k + 1, by omega, by go_num, by rw [HS'.out]; go_num⟩
          case measure => simp [intOf]; omega
      · have hkn : k = l.length := by omega
        subst hkn
        go_wp2
        go_ret
        exact ⟨ret_int (by rw [E.out]), rfl⟩

theorem info_rent : (Try.prog.info? 46).map (fun i => (i.zero, i.size, i.bytes)) = some (some (.agg #[.int .i64 0, .int .i64 0, .int .i64 0, .string ⟨#[]⟩]), 4, 40) := by kernel_rfl

def RSeenPost (w : World) (l : List Ent) (e : Ending) (w' : World) : Prop := ∃ v, e = .returned v ∧ REnts w' w.heap.size v l ∧ Below w.heap.size w w'

set_option maxHeartbeats 2000000 in
theorem rseen_any (x : Int) (h : IsRef w B rb A n cap T v l) (hB : B ≤ w.heap.size) (hlen : l.length ≤ 100000) :
    Calls Try.prog 22 #[.pointer (some ⟨rb, 0, none⟩), .int .i64 x] w (RSeenPost w (seenL n T l x)) := by
  have H := Lib.hid h
  have hrb := lt_of h.blk
  obtain ⟨A', c, rfl, hm, hr⟩ := rents_shape h.own
  have HR := Lib.hid hr
  have HC := Lib.hid h.cells
  obtain ⟨i0, hi, hz0, hz1, hz2⟩ := info_parts info_rent
  have HI := Lib.hid hi; have HZ0 := Lib.hid hz0; have HZ1 := Lib.hid hz1; have HZ2 := Lib.hid hz2
  clear h hr hi hz0 hz1 hz2
  go_enter Try.func22, Try.ntmps22
  go_wp2
  go_loopw [5, 6] (fun r i wr => ∃ k : Nat, k ≤ l.length ∧ i = .int .i64 k ∧ REnts wr w.heap.size r (seenL n T (l.take k) x) ∧ Below w.heap.size w wr) (fun _ i _ => l.length - (intOf i).toNat)
  case atStart => exact ⟨0, Nat.zero_le _, rfl, ⟨rfl, Or.inl ⟨rfl, rfl⟩⟩, Below.refl _ _⟩
  case round =>
    obtain ⟨k, hk, rfl, hown, hBw⟩ := hrel
    have c0 := (bcell hBw rb 0 hrb).trans HC.out.1
    have c1 := (bcell hBw rb 1 hrb).trans HC.out.2
    by_cases hlt : k < l.length
    · obtain ⟨g, rfl, hg, hra⟩ := HR.out k hlt
      have hs := seen_snoc n T (l.take k) x l[k]
      rw [← take_snoc' l k hlt] at hs
      generalize l[k] = y at hs hra
      obtain ⟨yb, yf, yt, ys⟩ := y
      have k0 := (bcell hBw g (k * 4 + 0) hg).trans (hra 0 _ rfl)
      have k1 := (bcell hBw g (k * 4 + 1) hg).trans (hra 1 _ rfl)
      have k2 := (bcell hBw g (k * 4 + 2) hg).trans (hra 2 _ rfl)
      have k3 := (bcell hBw g (k * 4 + 3) hg).trans (hra 3 _ rfl)
      simp only [Nat.add_zero] at k0
      have HSQ := Lib.hid (fun q => (H.out.sq.below (hBw.mono hB)).keep (w' := wr.drewN q) fun _ _ => rfl)
      have hln : (seenL n T (l.take k) x).length ≤ k := Nat.le_trans (seen_len _ _ _ _) (List.length_take_le _ _)
      have HO := Lib.hid hown
      have HB := Lib.hid hBw
      clear hra hown hBw
      cases hyb : belowV n T yb x
      · have HS := Lib.hid (show seenL n T (l.take (k + 1)) x = seenL n T (l.take k) x by rw [hs, hyb]; simp)
        have HCB := Lib.hid (show ∀ W : World, Sq W B A n T → Calls Try.prog 42 #[.slice A n cap, .int .i64 yb, .int .i64 x] W fun e w' => e = .returned (.bool false) ∧ W = w' from fun W hW => hyb ▸ refBelow_any n cap B A T yb x W hW)
        clear hs hyb
        go_wp2
        go_quiet ((go_at_call 42; exact still_left (HCB.out _ (HSQ.out _))))
        go_wp2
        go_roundw
        case rel => exact ⟨k + 1, by omega, by go_num, by rw [HS.out]; exact HO.out, below_drew HB.out _⟩
        case measure => simp [intOf]; omega
      · have HS := Lib.hid (show seenL n T (l.take (k + 1)) x = seenL n T (l.take k) x ++ [⟨yb, yf, yt, ys⟩] by rw [hs, hyb]; simp)
        have HCB := Lib.hid (show ∀ W : World, Sq W B A n T → Calls Try.prog 42 #[.slice A n cap, .int .i64 yb, .int .i64 x] W fun e w' => e = .returned (.bool true) ∧ W = w' from fun W hW => hyb ▸ refBelow_any n cap B A T yb x W hW)
        clear hs hyb
        go_wp2
        go_quiet ((go_at_call 42; exact still_left (HCB.out _ (HSQ.out _))))
        go_wp2_with (at_builtin; refine wpList_append_own _ rfl (.tmp 30) (.tmp 38) 42 rfl w.heap.size 46 i0 _ 4 40 Try.underlying42 HI.out HZ0.out HZ1.out HZ2.out rfl (by decide) _ _ _ rfl (World.ownsRow.alloc (w := wr.drewN _) HO.out _) ⟨wr.heap.size, 0, none⟩ 1 1 (Ent.cells ⟨yb, yf, yt, ys⟩) rfl rfl ?c1 ?c2 ?c3 ?c4 ?c5 ?_)
        case c1 => exact news_ent (x := ⟨yb, yf, yt, ys⟩) (by rw [show wr.heap.size = (wr.drewN _).heap.size from by simp]; exact heap_alloc_new _ _)
        case c2 => exact one_ent _
        case c3 => unfold maxLen; omega
        case c4 => omega
        case c5 => have := HB.out.size; simp; omega
        intro v' w1 hown' hg' _
        have HO2 := Lib.hid (show REnts w1 w.heap.size v' (seenL n T (l.take (k + 1)) x) from by rw [HS.out]; exact rents_snoc rfl hown')
        have HB2 := Lib.hid (((below_drew HB.out _).alloc (by have := HB.out.size; simp; omega) _).grown hg' (by have := HB.out.size; simp; omega) (rents_ge HO.out))
        clear hown' hg' HO HB
        go_wp2
        go_roundw
        case rel => exact ⟨k + 1, by omega, by go_num, HO2.out, HB2.out⟩
        case measure => simp [intOf]; omega
    · have hkn : k = l.length := by omega
      subst hkn
      have HO := Lib.hid hown
      have HB := Lib.hid hBw; clear hBw hown
      go_wp2
      go_ret
      rw [List.take_length] at HO
      exact ⟨_, rfl, HO.out, HB.out⟩
end
end Go.Proofs.Ytjfonbkeamhnmaa
