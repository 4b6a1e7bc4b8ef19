/- Layer 4: numbers of the call's own; awake answers true. -/
import Derived.Test.YtbknfbobidgkkaaDoorIdC
import Derived.Test.YtbknfbobidgkkaaDoorIdD
import Derived.Test.YtbknfbobidgkkaaDoorIdLG

namespace Go.Proofs.YtbknfbobidgkkaaDoor
open Go.RowKit Ids Lat

/-- Numbers of the call's own: all of them lies from block B on; what was below B is as it was. -/
structure MineI (w0 w : World) (B d n : Nat) (T : Nat → Nat) : Prop where
  ids : ∃ g, IsIds w d g n T ∧ B ≤ g
  at_ : B ≤ d
  old : Below B w0 w
  sz : B ≤ w.heap.size

theorem MineI.below {w0 w w' : World} {B d n : Nat} {T : Nat → Nat} (h : MineI w0 w B d n T) (hb : Below w.heap.size w w') : MineI w0 w' B d n T := by
  obtain ⟨g, hi, hg⟩ := h.ids
  exact ⟨⟨g, hi.below hb, hg⟩, h.at_, h.old.trans (hb.mono h.sz), Nat.le_trans h.sz hb.size⟩
theorem MineI.drewN {w0 w : World} {B d n : Nat} {T : Nat → Nat} (h : MineI w0 w B d n T) (j : Nat) : MineI w0 (w.drewN j) B d n T := h.below (below_drew (Below.refl _ _) j)
theorem MineI.vars {w0 w : World} {d n : Nat} {T : Nat → Nat} (h : MineI w0 w w0.heap.size d n T) (hV : Vars w0) : Vars w := hV.below h.old (Nat.le_refl _)

def MineNext (w0 : World) (B d n : Nat) (T : Nat → Nat) (x : Int) (e : Ending) (w' : World) : Prop := e = .returned (.tuple #[.int .i64 x, .bool true]) ∧ MineI w0 w' B d n T

theorem mine_next {w0 w : World} {B d n i : Nat} {T : Nat → Nat} (h : MineI w0 w B d n T) (hi : i < n) (hT : T i ≤ 1000000) {x : Int} (hx : (T i : Int) = x) :
    Calls Tryd.prog 16 #[.pointer (some ⟨d, 0, none⟩), .int .i64 i] w (MineNext w0 B d n (more T i) x) := by
  obtain ⟨g, hi', hg⟩ := h.ids
  refine (next_lab d g n i T w hi' hi hT).mono ?_
  rintro e w' ⟨rfl, h1, h2⟩
  exact ⟨by rw [hx], ⟨g, h1, hg⟩, h.at_, h2.below hg h.old h.sz, Nat.le_trans h.sz h2.size⟩

theorem mine_given {w0 w : World} {B d n i : Nat} {T : Nat → Nat} (h : MineI w0 w B d n T) (hi : i < n) {x : Int} (hx : (T i : Int) = x) :
    Calls Tryd.prog 17 #[.pointer (some ⟨d, 0, none⟩), .int .i64 i] w fun e w' => e = .returned (.int .i64 x) ∧ w = w' := by
  obtain ⟨g, hi', hg⟩ := h.ids
  exact hx ▸ given_lab d g n i T w hi' hi

theorem MineI.some {w0 w : World} {B d n : Nat} {T : Nat → Nat} (h : MineI w0 w B d n T) : Some0 w (.pointer (some ⟨d, 0, none⟩)) n := by
  obtain ⟨g, hi', hg⟩ := h.ids
  exact hi'.some

def MineNew (w0 : World) (B n : Nat) (e : Ending) (w' : World) : Prop := ∃ d, e = .returned (.pointer (some ⟨d, 0, none⟩)) ∧ MineI w0 w' B d n (fun _ => 0)

theorem mine_new {w0 w : World} {B lb n : Nat} {T : Nat → Nat → Bool} (h : IsLat w lb n T) (hb : Below B w0 w) (hs : B ≤ w.heap.size) : Calls Tryd.prog 15 #[.pointer (some ⟨lb, 0, none⟩)] w (MineNew w0 B n) := by
  refine (new_any lb n T w h).mono ?_
  rintro e w' ⟨d, g, rfl, hd, hg, hI, hB⟩
  exact ⟨d, rfl, ⟨g, hI, Nat.le_trans hs hg⟩, Nat.le_trans hs hd, hb.trans (hB.mono hs), Nat.le_trans hs hB.size⟩

/-- Rank of ranks alone. -/
def RankGood (w : World) (r : Nat) (e : Ending) (w' : World) : Prop := ∃ lb, e = .returned (.tuple #[.pointer (some ⟨lb, 0, none⟩), .int .i64 0]) ∧ w.heap.size ≤ lb ∧ IsLat w' lb r (rankT r) ∧ Below w.heap.size w w'

theorem rank_good (r : Nat) (w : World) (h1 : 1 ≤ r) (h2 : r ≤ 64) : Calls Tryd.prog 14 #[.int .i64 r, .int .i64 0] w (RankGood w r) := by
  refine (rank_any r 0 w).mono ?_
  rintro e w' ⟨hb, h⟩
  rcases h with ⟨h, _⟩ | ⟨_, lb, rfl, hlb, hI⟩
  · exact absurd ⟨by omega, by omega, by omega, by omega, by simp; omega⟩ h
  · simp at hI
    exact ⟨lb, rfl, hlb, hI, hb⟩

/-- p2.0.7 -/
def l207 : List UInt8 := [112, 50, 46, 48, 46, 55]
theorem words_207 : wordsL 2 0 7 = l207 := by simp [wordsL, Lib.itoa, Lib.decDigits, l207]
theorem parse_207 : parseV l207 = some (2, 0, 7) := by rw [← words_207]; exact parse_words (by decide)

theorem words_w {l : List UInt8} {a b c : Int} (h : mayAll a b c = true) (hl : wordsL a b c = l) (w : World) (hV : Vars w) :
    Calls Tryd.prog 10 #[.agg #[.int .i64 a, .int .i64 b, .int .i64 c]] w fun e w' => e = .returned (.tuple #[.string ⟨l.toArray⟩, .bool true]) ∧ Below w.heap.size w w' := hl ▸ words_yes a b c w h hV

set_option maxRecDepth 100000 in
set_option maxHeartbeats 1600000 in
theorem awake_any (w : World) (hV : Vars w) : Calls Tryd.prog 11 #[] w fun e w' => e = .returned (.bool true) ∧ Below w.heap.size w w' := by
  have HV := Lib.hid hV
  clear hV
  go_enter Tryd.func11, Tryd.ntmps11
  go_wp2_with fail
  refine (rank_good 3 w (by omega) (by omega)).mono ?_
  rintro e w1 ⟨lb, rfl, hlb, hI, hB⟩
  have HI := Lib.hid hI
  have HB := Lib.hid hB
  clear hI hB hlb
  go_wp2_with fail
  refine (mine_new (w0 := w) HI.out HB.out HB.out.size).mono ?_
  rintro e w2 ⟨d, rfl, hM⟩
  have H1 := Lib.hid (mine_next (i := 1) hM (by omega) (by omega) (x := 0) rfl)
  clear hM HI HB
  go_wp2_with fail
  refine H1.out.mono ?_
  rintro e w3 ⟨rfl, hM⟩
  have H2 := Lib.hid (mine_next (i := 1) hM (by omega) (by decide) (x := 1) rfl)
  clear hM H1
  go_wp2_with fail
  refine H2.out.mono ?_
  rintro e w4 ⟨rfl, hM⟩
  have HM := Lib.hid hM
  clear hM H2
  go_wp2_with fail
  refine (words_w (l := l207) (by decide) words_207 _ (HM.out.vars HV.out)).mono ?_
  rintro e w5 ⟨rfl, hB⟩
  have HM5 := Lib.hid (HM.out.below hB)
  clear hB HM
  go_wp2_with fail
  refine (parse_some (l := l207) (by decide) parse_207 (HM5.out.vars HV.out)).mono ?_
  rintro e w6 ⟨rfl, hB⟩
  have HM6 := Lib.hid (HM5.out.below hB)
  clear hB HM5
  go_wp2_with fail
  refine (mine_given (i := 1) (x := 2) (HM6.out.below ((Below.refl _ _).alloc (Nat.le_refl _) _)) (by omega) rfl).mono ?_
  rintro e w7 ⟨rfl, rfl⟩
  go_wp2
  go_ret
  exact ⟨rfl, (HM6.out.old).alloc HM6.out.sz _⟩

end Go.Proofs.YtbknfbobidgkkaaDoor
