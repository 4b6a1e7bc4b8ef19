/- Layer 2: chain; awake answers true. -/
import Derived.Test.YtjfonbkeamhnmaaAudG
namespace Go.Proofs.Ytjfonbkeamhnmaa
open Go.RowKit Lat

theorem Moved.below {w w' : World} {gb : Nat} {v v' : Value} {B : Nat} (h : Moved w w' gb v v') (hgb : B ≤ gb) (hv : ∀ g, v.ownBlock = some g → B ≤ g) (hB : B ≤ w.heap.size) : Below B w w' ∧ ∀ g, v'.ownBlock = some g → B ≤ g := by
  refine ⟨⟨h.os, h.tape, h.output, h.size, fun k hk => h.block k (by omega) (by omega) (fun e => by have := hv k e; omega)⟩, fun g hg => ?_⟩
  rcases h.own with e | ⟨g', e, hg'⟩
  · exact hv g (by rw [← e]; exact hg)
  · rw [e] at hg
    injection hg with hg
    omega

/-- A log of the call's own: its struct and its entries lie from block B on; what was below B is as it was. -/
structure Mine (w0 w : World) (B gb lb n : Nat) (T : Nat → Nat → Bool) (l : List Ent) : Prop where
  log : ∃ v, IsLog w gb lb n T v l ∧ ∀ g, v.ownBlock = some g → B ≤ g
  at_ : B ≤ gb
  old : Below B w0 w
  sz : B ≤ w.heap.size

theorem Mine.below {w0 w w' : World} {B gb lb n : Nat} {T : Nat → Nat → Bool} {l : List Ent} (h : Mine w0 w B gb lb n T l) (hb : Below w.heap.size w w') : Mine w0 w' B gb lb n T l := by
  obtain ⟨v, hl, hv⟩ := h.log
  exact ⟨⟨v, hl.below hb (Nat.le_refl _), hv⟩, h.at_, h.old.trans (hb.mono h.sz), Nat.le_trans h.sz hb.size⟩
theorem Mine.alloc {w0 w : World} {B gb lb n : Nat} {T : Nat → Nat → Bool} {l : List Ent} (h : Mine w0 w B gb lb n T l) (o : Obj) : Mine w0 (w.alloc o) B gb lb n T l := h.below ((Below.refl _ w).alloc (Nat.le_refl _) o)

def MinePut (w0 : World) (B gb lb n : Nat) (T : Nat → Nat → Bool) (l : List Ent) (x : Ent) (e : Ending) (w' : World) : Prop :=
  e = .returned (.int .i64 (putErr n T l x)) ∧ Mine w0 w' B gb lb n T (putL n T l x)

theorem mine_put {w0 w : World} {B gb lb n : Nat} {T : Nat → Nat → Bool} {l : List Ent} (x : Ent) (h : Mine w0 w B gb lb n T l) (hs : x.s.size ≤ 9223372036854775807) (hlen : l.length ≤ 100000) :
    Calls Try.prog 9 #[.pointer (some ⟨gb, 0, none⟩), x.val] w (MinePut w0 B gb lb n T l x) := by
  obtain ⟨v, hl, hv⟩ := h.log
  refine (put_any gb lb n T v l x w hl hs hlen).mono ?_
  rintro e w' ⟨v', he, hl', hm⟩
  obtain ⟨h1, h2⟩ := hm.below h.at_ hv h.sz
  exact ⟨he, ⟨v', hl', h2⟩, h.at_, h.old.trans h1, Nat.le_trans h.sz hm.size⟩

def MineSeen (w : World) (n : Nat) (T : Nat → Nat → Bool) (l : List Ent) (x : Int) (e : Ending) (w' : World) : Prop :=
  ∃ A c, e = .returned (.slice A (seenL n T l x).length c) ∧ Ents w' w.heap.size (.slice A (seenL n T l x).length c) (seenL n T l x) ∧ Below w.heap.size w w'

theorem mine_seen {w0 w : World} {B gb lb n : Nat} {T : Nat → Nat → Bool} {l : List Ent} (x : Int) (h : Mine w0 w B gb lb n T l) (hlen : l.length ≤ 100000) :
    Calls Try.prog 13 #[.pointer (some ⟨gb, 0, none⟩), .int .i64 x] w (MineSeen w n T l x) := by
  obtain ⟨v, hl, hv⟩ := h.log
  refine (seen_any gb lb n T v l x w hl hlen).mono ?_
  rintro e w' ⟨v', rfl, ho, hb⟩
  obtain ⟨A, c, rfl, _⟩ := ents_shape ho
  exact ⟨A, c, rfl, ho, hb⟩

theorem mine_room {w0 w : World} {B gb lb n : Nat} {T : Nat → Nat → Bool} {l : List Ent} (x : Int) (h : Mine w0 w B gb lb n T l) :
    Calls Try.prog 18 #[.pointer (some ⟨gb, 0, none⟩), .int .i64 x] w fun e w' => e = .returned (.int .i64 (roomV n l x)) ∧ Below w.heap.size w w' := by
  obtain ⟨v, hl, hv⟩ := h.log
  exact room_any gb lb n T v l x w hl

theorem mine_len {w0 w : World} {B gb lb n : Nat} {T : Nat → Nat → Bool} {l : List Ent} (h : Mine w0 w B gb lb n T l) :
    Calls Try.prog 12 #[.pointer (some ⟨gb, 0, none⟩)] w fun e w' => e = .returned (.int .i64 l.length) ∧ w = w' := by
  obtain ⟨v, hl, hv⟩ := h.log
  exact logLen_any gb lb n T v l w hl

theorem mine_at {w0 w : World} {B gb lb n : Nat} {T : Nat → Nat → Bool} {l : List Ent} (k : Nat) (hk : k < l.length) (h : Mine w0 w B gb lb n T l) :
    Calls Try.prog 20 #[.pointer (some ⟨gb, 0, none⟩), .int .i64 k] w fun e w' => e = .returned (.tuple #[(l[k]).val, .bool true]) ∧ Below w.heap.size w w' := by
  obtain ⟨v, hl, hv⟩ := h.log
  exact at_some gb lb n T v l k w hl hk

theorem mine_off {w0 w : World} {B gb lb n : Nat} {T : Nat → Nat → Bool} {l : List Ent} (i : Int) (hi : i < 0 ∨ (l.length : Int) ≤ i) (h : Mine w0 w B gb lb n T l) :
    Calls Try.prog 20 #[.pointer (some ⟨gb, 0, none⟩), .int .i64 i] w fun e w' => e = .returned (.tuple #[noEnt, .bool false]) ∧ Below w.heap.size w w' := by
  obtain ⟨v, hl, hv⟩ := h.log
  exact at_none gb lb n T v l i w hl hi

def MineNew (w0 : World) (B lb n : Nat) (T : Nat → Nat → Bool) (e : Ending) (w' : World) : Prop := ∃ gb, e = .returned (.tuple #[.pointer (some ⟨gb, 0, none⟩), .int .i64 0]) ∧ Mine w0 w' B gb lb n T []

theorem mine_new {w0 w : World} {B lb n : Nat} {T : Nat → Nat → Bool} (h : IsLat w lb n T) (hb : Below B w0 w) (hs : B ≤ w.heap.size) : Calls Try.prog 7 #[.pointer (some ⟨lb, 0, none⟩)] w (MineNew w0 B lb n T) := by
  refine (logNew_any lb n T w h).mono ?_
  rintro e w' ⟨gb, rfl, hgb, hl, hB⟩
  exact ⟨gb, rfl, ⟨_, hl, fun g hg => by simp [Value.ownBlock] at hg⟩, Nat.le_trans hs hgb, hb.trans (hB.mono hs), Nat.le_trans hs hB.size⟩

def ChainPost (w : World) (e : Ending) (w' : World) : Prop := ∃ lb, e = .returned (.pointer (some ⟨lb, 0, none⟩)) ∧ w.heap.size ≤ lb ∧ IsLat w' lb 3 (rankT 3) ∧ Below w.heap.size w w'

theorem rank30 : rankOk 3 0 := by unfold rankOk; decide

theorem chain_any (w : World) : Calls Try.prog 8 #[.int .i64 3] w (ChainPost w) := by
  go_enter Try.func8, Try.ntmps8
  go_wp2_with fail
  refine (rank_any 3 0 w).mono ?_
  rintro e w1 ⟨hB1, ⟨hno, _⟩ | ⟨_, lb1, rfl, hl1, hI1⟩⟩
  · exact absurd rank30 hno
  have HB1 := Lib.hid hB1
  have HI1 := Lib.hid (show IsLat w1 lb1 3 (rankT 3) from hI1)
  clear hB1 hI1
  go_wp2
  go_ret
  exact ⟨lb1, rfl, hl1, HI1.out, HB1.out⟩

def e1 : Ent := ⟨2, 1, 0, ⟨#[97, 98, 99]⟩⟩
def e2 : Ent := ⟨1, 2, 0, ⟨#[120]⟩⟩
theorem p1 : putErr 3 (rankT 3) [] e1 = 0 ∧ putL 3 (rankT 3) [] e1 = [e1] := ⟨by kernel_rfl, by kernel_rfl⟩
theorem p2 : putErr 3 (rankT 3) [e1] e2 = 7 ∧ putL 3 (rankT 3) [e1] e2 = [e1] := ⟨by kernel_rfl, by kernel_rfl⟩
theorem p3 : roomV 3 [e1] 2 = 15 ∧ (seenL 3 (rankT 3) [e1] 2).length = 1 ∧ (seenL 3 (rankT 3) [e1] 1).length = 0 := ⟨by kernel_rfl, by kernel_rfl, by kernel_rfl⟩

set_option maxRecDepth 100000 in
set_option maxHeartbeats 1600000 in
theorem awake_any (w : World) : Calls Try.prog 11 #[] w fun e w' => e = .returned (.bool true) ∧ Below w.heap.size w w' := by
  go_enter Try.func11, Try.ntmps11
  go_wp2_with fail
  refine (chain_any w).mono ?_
  rintro e w1 ⟨lb, rfl, hlb, hI, hB⟩
  have HN := Lib.hid (mine_new hI hB hB.size)
  clear hI hB hlb
  go_wp2_with fail
  refine HN.out.mono ?_
  rintro e w2 ⟨gb, rfl, hM⟩
  have HP := Lib.hid (mine_put e1 hM (by decide) (by decide))
  clear hM HN
  go_wp2_with fail
  refine HP.out.mono ?_
  rintro e w3 ⟨he, hM⟩
  rw [p1.1] at he
  rw [p1.2] at hM
  subst he
  have HP2 := Lib.hid (mine_put e2 hM (by decide) (by decide))
  clear hM HP
  go_wp2_with fail
  refine HP2.out.mono ?_
  rintro e w4 ⟨he, hM⟩
  rw [p2.1] at he
  rw [p2.2] at hM
  subst he
  have HM4 := Lib.hid hM
  clear hM HP2
  go_wp2_with fail
  refine (mine_at 0 (by decide) HM4.out).mono ?_
  rintro e w5 ⟨rfl, hb⟩
  simp only [List.getElem_cons_zero, Ent.val, e1]
  have H5 := Lib.hid (HM4.out.below hb)
  clear hb HM4
  go_wp2_with fail
  refine (mine_len (H5.out.alloc _)).mono ?_
  rintro e w6 ⟨rfl, rfl⟩
  go_wp2_with fail
  refine (mine_room 2 (H5.out.alloc _)).mono ?_
  rintro e w7 ⟨he, hb⟩
  rw [p3.1] at he
  subst he
  have hc : w7.cell? ⟨w5.heap.size, 3, none⟩ = some (.string ⟨#[97, 98, 99]⟩) := (bcell hb _ 3 (by simp)).trans (by simp)
  have H7 := Lib.hid ((H5.out.alloc _).below hb)
  clear hb H5
  go_wp2_with fail
  refine (mine_seen 2 H7.out (by decide)).mono ?_
  rintro e w8 ⟨A, c, rfl, _, hb⟩
  rw [p3.2.1]
  have H8 := Lib.hid (H7.out.below hb)
  clear hb H7
  go_wp2_with fail
  refine (mine_seen 1 H8.out (by decide)).mono ?_
  rintro e w9 ⟨A', c', rfl, _, hb⟩
  rw [p3.2.2]
  have H9 := Lib.hid (H8.out.below hb)
  clear hb H8
  go_wp2
  go_ret
  exact ⟨rfl, H9.out.old⟩
end Go.Proofs.Ytjfonbkeamhnmaa
