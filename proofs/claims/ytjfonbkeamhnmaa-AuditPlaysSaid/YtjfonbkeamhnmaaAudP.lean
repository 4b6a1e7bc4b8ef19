/- Layer 2: AuditPlays' walk. -/
import Derived.Test.YtjfonbkeamhnmaaRefC
import Derived.Test.YtjfonbkeamhnmaaAudK
import Derived.Test.YtjfonbkeamhnmaaDocC
import Derived.Deep.RegionHeld3
namespace Go.Proofs.Ytjfonbkeamhnmaa
open Go.RowKit Lat

theorem Duo.drew {w0 w : World} {B gb rb lb n cap : Nat} {A : Option Addr} {T : Nat → Nat → Bool} {lg lr : List Ent} (h : Duo w0 w B gb rb lb A n cap T lg lr) : Duo w0 w.drew B gb rb lb A n cap T lg lr := h.drewN 1

/-- Another, stronger S from here on. -/
theorem wpAnyH_swap {P : Program} {md : Region.Mode} {ops : Array Oper} {Q : Exit → Act → World → Prop} {S S' : World → Prop} (h : ∀ w, S' w → S w) : ∀ (fuel : Nat) (listed : Array Bool) (a : Act) (w : World), wpAnyH P md ops Q S' fuel listed a w → wpAnyH P md ops Q S fuel listed a w
  | 0, _, _, _, hh => hh
  | fuel + 1, _, _, _, hh => ⟨hh.1, fun i hi => wpOp_mono (fun a' w' h' => ⟨h w' h'.1, wpAnyH_swap h fuel _ a' w' h'.2⟩) (hh.2 i hi)⟩

def RSeenAt (w : World) (n : Nat) (T : Nat → Nat → Bool) (l : List Ent) (x : Int) (e : Ending) (w' : World) : Prop :=
  ∃ A c, e = .returned (.slice A (seenL n T l x).length c) ∧ REnts w' w.heap.size (.slice A (seenL n T l x).length c) (seenL n T l x) ∧ Below w.heap.size w w'

theorem duo_rseen {w0 w : World} {B gb rb lb n cap : Nat} {A : Option Addr} {T : Nat → Nat → Bool} {lg lr : List Ent} (x : Int) (h : Duo w0 w B gb rb lb A n cap T lg lr) (hlen : lr.length ≤ 100000) :
    Calls Try.prog 22 #[.pointer (some ⟨rb, 0, none⟩), .int .i64 x] w (RSeenAt w n T lr x) := by
  obtain ⟨vr, hR, _⟩ := h.ref
  refine (rseen_any x hR h.sz hlen).mono ?_
  rintro e w' ⟨v', rfl, ho, hb⟩
  obtain ⟨A', c, rfl, _⟩ := rents_shape ho
  exact ⟨A', c, rfl, ho, hb⟩

def PlayCut (w : World) (gb rb lb : Nat) (A : Option Addr) (n cap : Nat) (T : Nat → Nat → Bool) (l : List Ent) (s : Value) (wc : World) : Prop := s = .bool false ∧ Duo w wc w.heap.size gb rb lb A n cap T l l

set_option maxRecDepth 100000 in
set_option maxHeartbeats 8000000 in
theorem plays_any (n cap : Nat) (A : Option Addr) (L : Nat → Nat) (T : Nat → Nat → Bool) (m cap2 : Nat) (A2 : Option Addr) (X : Nat → Ent) (x : Int) (w : World) (hG : Grid w w.heap.size A n L T) (hn : n ≤ 9223372036854775807) (hE : EntsIn w w.heap.size A2 m X) (hm : m ≤ 9223372036854775807) :
    Calls Try.prog 4 #[.slice A n cap, .slice A2 m cap2, .int .i64 x] w fun e w' => e = .returned (.bool true) ∧ Below w.heap.size w w' := by
  have HG := Lib.hid hG
  have HE := Lib.hid hE
  clear hE hG
  go_enter Try.func4, Try.ntmps4
  go_wp2_with fail
  refine (awake_any w).mono ?_
  rintro e w1 ⟨rfl, hB⟩
  have HG1 := Lib.hid (HG.out.below hB)
  have HE1 := Lib.hid (HE.out.below hB)
  have HB := Lib.hid hB
  clear hB
  go_wp2_with fail
  refine (great_any n cap m cap2 w.heap.size A A2 L T X w1 HG1.out HE1.out hn hm).mono ?_
  rintro e w2 ⟨g, rfl, rfl, hg⟩
  cases g
  case true =>
    clear hg
    go_wp2
    go_ret
    exact ⟨rfl, HB.out⟩
  obtain ⟨hn20, hm100, _⟩ := hg rfl
  clear hg hm
  go_wp2_with fail
  refine (refNew_any n cap w.heap.size A L T w1 HG1.out hn).mono ?_
  rintro e w2 ⟨rfl, rfl⟩
  by_cases h0 : newErr n L T = 0
  case neg =>
    have hd : (newErr n L T != 0) = true := by simpa using h0
    clear h0
    go_wp2
    go_ret
    exact ⟨rfl, HB.out⟩
  obtain ⟨hn1, hn64, hL, _⟩ := newErr_zero h0
  have HL := Lib.hid hL
  have HNA := Lib.hid (new_any n cap A L T w1 (HG1.out.more HB.out.size) hn)
  rw [h0]
  have H0 := Lib.hid h0
  clear h0 hL
  go_wp2_with fail
  refine HNA.out.mono ?_
  rintro e w3 ⟨hB3, ⟨hno, _⟩ | ⟨_, lb, rfl, hl3, hI3⟩⟩
  · exact absurd H0.out hno
  have HB3 := Lib.hid (HB.out.trans (hB3.mono HB.out.size))
  have HI3 := Lib.hid hI3
  clear hI3 hB3 hl3 HNA
  go_wp2_with fail
  refine (mine_new HI3.out HB3.out HB3.out.size).mono ?_
  rintro e w4 ⟨gb, rfl, hM4⟩
  have HD5 := Lib.hid (show Duo w (w4.alloc (.cells #[.slice A n cap, .slice none 0 0] 44)) w.heap.size gb w4.heap.size lb A n cap T [] [] from by
    have hM5 := hM4.alloc (.cells #[.slice A n cap, .slice none 0 0] 44)
    obtain ⟨v, hl, hv⟩ := hM5.log
    refine ⟨⟨v, .slice none 0 0, hl, ⟨heap_alloc_new w4 _, ((HG.out.below hM5.old).sq (by omega) HL.out), ⟨rfl, Or.inl ⟨rfl, rfl⟩⟩⟩, hv, fun k hk => by simp [Value.ownBlock] at hk⟩, hM5.at_, hM4.sz, hM5.old, hM5.sz⟩)
  clear hM4 HI3 HB3 HB HG1 HE1
  generalize hrb : w4.heap.size = rb at HD5
  go_wp2
  clear hrb
  go_loopw [12] (fun i wr => ∃ k : Nat, k ≤ m ∧ i = .int .i64 k ∧ Duo w wr w.heap.size gb rb lb A n cap T (gL n T X k) (gL n T X k)) (fun i _ => m - (intOf i).toNat)
  case atStart => exact ⟨0, Nat.zero_le _, rfl, HD5.out⟩
  case round =>
    obtain ⟨k, hk, rfl, hD⟩ := hrel
    clear HD5
    by_cases hlt : k < m
    · obtain ⟨b, o, rfl, hbB, hsz, _⟩ := HE.out.at_ hlt
      have hlg := gL_len n T X k
      have HG1 := Lib.hid (show gL n T X (k + 1) = putL n T (gL n T X k) (X k) from rfl)
      have hcl : ∀ wr' : World, Below w.heap.size w wr' → wr'.cell? ⟨b, o + k * 4, none⟩ = some (.int .i64 (X k).b) ∧ wr'.cell? ⟨b, o + k * 4 + 1, none⟩ = some (.int .i64 (X k).f) ∧ wr'.cell? ⟨b, o + k * 4 + 2, none⟩ = some (.int .i64 (X k).t) ∧ wr'.cell? ⟨b, o + k * 4 + 3, none⟩ = some (.string (X k).s) := by
        intro wr' hB'
        obtain ⟨b', o', e, _, _, hcs⟩ := (HE.out.below hB').at_ hlt
        injection e with e
        injection e with e1 e2
        subst e1 e2
        exact hcs
      have HCL := Lib.hid hcl
      clear hcl
      have hpl := putL_len n T (gL n T X k) (X k)
      obtain ⟨xv, hxv⟩ : ∃ xv, xv = X k := ⟨_, rfl⟩
      rw [← hxv] at HG1 HCL hsz hpl
      obtain ⟨lg, hlgv⟩ : ∃ lg, lg = gL n T X k := ⟨_, rfl⟩
      rw [← hlgv] at HG1 hD hlg hpl
      clear hxv hlgv
      obtain ⟨xb, xf, xt, xs⟩ := xv
      have hlen2 : (putL n T lg ⟨xb, xf, xt, xs⟩).length ≤ 101 := by rw [hpl]; split <;> omega
      clear hpl
      have hD0 := hD.drew
      have hDr := Lib.hid hD
      clear hD
      have hi0 : (0 : Int) ≤ (k : Int) := Int.natCast_nonneg _
      have hi1 : (k : Int) < (m : Int) := by omega
      go_upto_region 13 with fail
      go_cut [99] (PlayCut w gb rb lb A n cap T (putL n T lg ⟨xb, xf, xt, xs⟩))
      case first =>
        refine wp_region_noPanic ?_
        refine wp_region_held_drew (S := (fun w' => w'.cell? ⟨b, o + k * 4, none⟩ = some (.int .i64 xb) ∧ w'.cell? ⟨b, o + k * 4 + 1, none⟩ = some (.int .i64 xf) ∧ w'.cell? ⟨b, o + k * 4 + 2, none⟩ = some (.int .i64 xt) ∧ w'.cell? ⟨b, o + k * 4 + 3, none⟩ = some (.string xs))) (by kernel_rfl) ?_ (fun hHeld => ?_)
        · exact HCL.out _ hD0.old
        refine wpAnyH_take (i := 0) (oi := { dst := some 60, op := Op.move (Operand.tmp 9), type := 22, pos := "law.go:74", after := #[], guard := none }) (v := ?_) rfl (by kernel_rfl) (by kernel_rfl) (by kernel_rfl) (fun _ _ _ h => h) (Or.inl ⟨by rfl, ?_⟩) (by assumption) ?_
        rotate_left
        · intro w hSw
          try dsimp only at hSw
          go_simp <;> with_reducible rfl
        try simp only [Act.put, List.setIfInBounds_toArray, List.set_cons_zero, List.set_cons_succ]
        refine wpAnyH_take (i := 1) (oi := { dst := some 61, op := Op.move (Operand.tmp 1), type := 34, pos := "law.go:74", after := #[], guard := none }) (v := ?_) rfl (by kernel_rfl) (by kernel_rfl) (by kernel_rfl) (fun _ _ _ h => h) (Or.inl ⟨by rfl, ?_⟩) (by assumption) ?_
        rotate_left
        · intro w hSw
          try dsimp only at hSw
          go_simp <;> with_reducible rfl
        try simp only [Act.put, List.setIfInBounds_toArray, List.set_cons_zero, List.set_cons_succ]
        refine wpAnyH_take (i := 2) (oi := { dst := some 62, op := Op.move (Operand.tmp 12), type := 3, pos := "law.go:74", after := #[], guard := none }) (v := ?_) rfl (by kernel_rfl) (by kernel_rfl) (by kernel_rfl) (fun _ _ _ h => h) (Or.inl ⟨by rfl, ?_⟩) (by assumption) ?_
        rotate_left
        · intro w hSw
          try dsimp only at hSw
          go_simp <;> with_reducible rfl
        try simp only [Act.put, List.setIfInBounds_toArray, List.set_cons_zero, List.set_cons_succ]
        refine wpAnyH_take (i := 3) (oi := { dst := some 63, op := Op.indexAddr 34 (Operand.tmp 61) (Operand.tmp 62), type := 0, pos := "law.go:74", after := #[{ on := 1, ground := Ground.data }, { on := 2, ground := Ground.data }], guard := none }) (v := ?_) rfl (by kernel_rfl) (by kernel_rfl) (by kernel_rfl) (fun _ _ _ h => h) (Or.inl ⟨by rfl, ?_⟩) (by assumption) ?_
        rotate_left
        · intro w hSw
          try dsimp only at hSw
          go_simp <;> with_reducible rfl
        try simp only [Act.put, List.setIfInBounds_toArray, List.set_cons_zero, List.set_cons_succ]
        refine wpAnyH_take (i := 4) (oi := { dst := some 64, op := Op.load 30 (Operand.tmp 63), type := 30, pos := "law.go:74", after := #[{ on := 3, ground := Ground.data }], guard := none }) (v := ?_) rfl (by kernel_rfl) (by kernel_rfl) (by kernel_rfl) (fun _ _ _ h => h) (Or.inl ⟨by rfl, ?_⟩) (by assumption) ?_
        rotate_left
        · intro w hSw
          try dsimp only at hSw
          go_simp <;> with_reducible rfl
        try simp only [Act.put, List.setIfInBounds_toArray, List.set_cons_zero, List.set_cons_succ]
        refine wpAnyH_take (i := 6) (oi := { dst := some 66, op := Op.move (Operand.tmp 11), type := 41, pos := "law.go:74", after := #[], guard := none }) (v := ?_) rfl (by kernel_rfl) (by kernel_rfl) (by kernel_rfl) (fun _ _ _ h => h) (Or.inl ⟨by rfl, ?_⟩) (by assumption) ?_
        rotate_left
        · intro w hSw
          try dsimp only at hSw
          go_simp <;> with_reducible rfl
        try simp only [Act.put, List.setIfInBounds_toArray, List.set_cons_zero, List.set_cons_succ]
        refine wpAnyH_take (i := 7) (oi := { dst := some 67, op := Op.move (Operand.tmp 1), type := 34, pos := "law.go:74", after := #[], guard := none }) (v := ?_) rfl (by kernel_rfl) (by kernel_rfl) (by kernel_rfl) (fun _ _ _ h => h) (Or.inl ⟨by rfl, ?_⟩) (by assumption) ?_
        rotate_left
        · intro w hSw
          try dsimp only at hSw
          go_simp <;> with_reducible rfl
        try simp only [Act.put, List.setIfInBounds_toArray, List.set_cons_zero, List.set_cons_succ]
        refine wpAnyH_take (i := 8) (oi := { dst := some 68, op := Op.move (Operand.tmp 12), type := 3, pos := "law.go:74", after := #[], guard := none }) (v := ?_) rfl (by kernel_rfl) (by kernel_rfl) (by kernel_rfl) (fun _ _ _ h => h) (Or.inl ⟨by rfl, ?_⟩) (by assumption) ?_
        rotate_left
        · intro w hSw
          try dsimp only at hSw
          go_simp <;> with_reducible rfl
        try simp only [Act.put, List.setIfInBounds_toArray, List.set_cons_zero, List.set_cons_succ]
        refine wpAnyH_take (i := 9) (oi := { dst := some 69, op := Op.indexAddr 34 (Operand.tmp 67) (Operand.tmp 68), type := 0, pos := "law.go:74", after := #[{ on := 7, ground := Ground.data }, { on := 8, ground := Ground.data }], guard := none }) (v := ?_) rfl (by kernel_rfl) (by kernel_rfl) (by kernel_rfl) (fun _ _ _ h => h) (Or.inl ⟨by rfl, ?_⟩) (by assumption) ?_
        rotate_left
        · intro w hSw
          try dsimp only at hSw
          go_simp <;> with_reducible rfl
        try simp only [Act.put, List.setIfInBounds_toArray, List.set_cons_zero, List.set_cons_succ]
        refine wpAnyH_take (i := 10) (oi := { dst := some 70, op := Op.load 30 (Operand.tmp 69), type := 30, pos := "law.go:74", after := #[{ on := 9, ground := Ground.data }], guard := none }) (v := ?_) rfl (by kernel_rfl) (by kernel_rfl) (by kernel_rfl) (fun _ _ _ h => h) (Or.inl ⟨by rfl, ?_⟩) (by assumption) ?_
        rotate_left
        · intro w hSw
          try dsimp only at hSw
          go_simp <;> with_reducible rfl
        try simp only [Act.put, List.setIfInBounds_toArray, List.set_cons_zero, List.set_cons_succ]
        refine wpAnyH_ready (rs := [5]) (by kernel_rfl) (by simp) ?_
        refine AllReadyH.cons (o := { dst := some 65, op := Op.call { callee := Callee.value (Operand.func 9), args := #[Operand.tmp 60, Operand.tmp 64], argTypes := #[22, 30] }, type := 23, pos := "law.go:74", after := #[{ on := 0, ground := Ground.data }, { on := 4, ground := Ground.data }], guard := none }) rfl (fun K hK => ?_) AllReadyH.nil
        go_simp
        refine (duo_put ⟨xb, xf, xt, xs⟩ hD0 hsz (by omega)).mono ?_
        rintro e w6 ⟨rfl, hD1⟩
        try (go_wp2_with fail)
        refine hK.out _ _ ?_ (fun hHeld => ?_)
        · exact HCL.out _ hD1.old
        clear hK K
        try simp only [Act.put, List.setIfInBounds_toArray, List.set_cons_zero, List.set_cons_succ]
        refine wpAnyH_ready (rs := [11]) (by kernel_rfl) (by simp) ?_
        refine AllReadyH.cons (o := { dst := some 71, op := Op.call { callee := Callee.value (Operand.func 17), args := #[Operand.tmp 66, Operand.tmp 70], argTypes := #[41, 46] }, type := 3, pos := "law.go:74", after := #[{ on := 6, ground := Ground.data }, { on := 10, ground := Ground.data }, { on := 5, ground := Ground.chain }], guard := none }) rfl (fun K hK => ?_) AllReadyH.nil
        go_simp
        refine (duo_rput ⟨xb, xf, xt, xs⟩ hD1 hsz (by omega)).mono ?_
        rintro e w7 ⟨rfl, hD2⟩
        try (go_wp2_with fail)
        refine hK.out _ _ ?_ (fun hHeld => ?_)
        · exact HCL.out _ hD2.old
        clear hK K
        try simp only [Act.put, List.setIfInBounds_toArray, List.set_cons_zero, List.set_cons_succ]
        refine wpAnyH_take (i := 12) (oi := { dst := some 72, op := Op.binOp BinOp.neq 3 (Operand.tmp 65) (Operand.tmp 71) 3, type := 4, pos := "law.go:74", after := #[{ on := 5, ground := Ground.data }, { on := 11, ground := Ground.data }], guard := none }) (v := ?_) rfl (by kernel_rfl) (by kernel_rfl) (by kernel_rfl) (fun _ _ _ h => h) (Or.inl ⟨by rfl, ?_⟩) (by assumption) ?_
        rotate_left
        · intro w hSw
          try dsimp only at hSw
          go_simp <;> with_reducible rfl
        try simp only [Act.put, List.setIfInBounds_toArray, List.set_cons_zero, List.set_cons_succ]
        refine wpAnyH_take (i := 13) (oi := { dst := some 73, op := Op.move (Operand.tmp 72), type := 4, pos := "law.go:74", after := #[{ on := 12, ground := Ground.data }, { on := 11, ground := Ground.chain }], guard := none }) (v := ?_) rfl (by kernel_rfl) (by kernel_rfl) (by kernel_rfl) (fun _ _ _ h => h) (Or.inl ⟨by rfl, ?_⟩) (by assumption) ?_
        rotate_left
        · intro w hSw
          try dsimp only at hSw
          go_simp <;> with_reducible rfl
        try simp only [Act.put, List.setIfInBounds_toArray, List.set_cons_zero, List.set_cons_succ]
        refine wpAnyH_take (i := 14) (oi := { dst := some 74, op := Op.move (Operand.tmp 9), type := 22, pos := "law.go:74", after := #[{ on := 13, ground := Ground.guard }], guard := some (13, false) }) (v := ?_) rfl (by kernel_rfl) (by kernel_rfl) (by kernel_rfl) (fun _ _ _ h => h) (Or.inl ⟨by rfl, ?_⟩) (by assumption) ?_
        rotate_left
        · intro w hSw
          try dsimp only at hSw
          go_simp <;> with_reducible rfl
        try simp only [Act.put, List.setIfInBounds_toArray, List.set_cons_zero, List.set_cons_succ]
        refine wpAnyH_take (i := 15) (oi := { dst := some 75, op := Op.move (Operand.tmp 1), type := 34, pos := "law.go:74", after := #[{ on := 13, ground := Ground.guard }], guard := some (13, false) }) (v := ?_) rfl (by kernel_rfl) (by kernel_rfl) (by kernel_rfl) (fun _ _ _ h => h) (Or.inl ⟨by rfl, ?_⟩) (by assumption) ?_
        rotate_left
        · intro w hSw
          try dsimp only at hSw
          go_simp <;> with_reducible rfl
        try simp only [Act.put, List.setIfInBounds_toArray, List.set_cons_zero, List.set_cons_succ]
        refine wpAnyH_take (i := 16) (oi := { dst := some 76, op := Op.move (Operand.tmp 12), type := 3, pos := "law.go:74", after := #[{ on := 13, ground := Ground.guard }], guard := some (13, false) }) (v := ?_) rfl (by kernel_rfl) (by kernel_rfl) (by kernel_rfl) (fun _ _ _ h => h) (Or.inl ⟨by rfl, ?_⟩) (by assumption) ?_
        rotate_left
        · intro w hSw
          try dsimp only at hSw
          go_simp <;> with_reducible rfl
        try simp only [Act.put, List.setIfInBounds_toArray, List.set_cons_zero, List.set_cons_succ]
        refine wpAnyH_take (i := 17) (oi := { dst := some 77, op := Op.indexAddr 34 (Operand.tmp 75) (Operand.tmp 76), type := 0, pos := "law.go:74", after := #[{ on := 15, ground := Ground.data }, { on := 16, ground := Ground.data }, { on := 13, ground := Ground.guard }], guard := some (13, false) }) (v := ?_) rfl (by kernel_rfl) (by kernel_rfl) (by kernel_rfl) (fun _ _ _ h => h) (Or.inl ⟨by rfl, ?_⟩) (by assumption) ?_
        rotate_left
        · intro w hSw
          try dsimp only at hSw
          go_simp <;> with_reducible rfl
        try simp only [Act.put, List.setIfInBounds_toArray, List.set_cons_zero, List.set_cons_succ]
        refine wpAnyH_take (i := 18) (oi := { dst := some 78, op := Op.fieldAddr 30 (Operand.tmp 77) 0, type := 0, pos := "law.go:74", after := #[{ on := 17, ground := Ground.data }, { on := 13, ground := Ground.guard }], guard := some (13, false) }) (v := ?_) rfl (by kernel_rfl) (by kernel_rfl) (by kernel_rfl) (fun _ _ _ h => h) (Or.inl ⟨by rfl, ?_⟩) (by assumption) ?_
        rotate_left
        · intro w hSw
          try dsimp only at hSw
          go_simp <;> with_reducible rfl
        try simp only [Act.put, List.setIfInBounds_toArray, List.set_cons_zero, List.set_cons_succ]
        refine wpAnyH_take (i := 19) (oi := { dst := some 79, op := Op.load 3 (Operand.tmp 78), type := 3, pos := "law.go:74", after := #[{ on := 18, ground := Ground.data }, { on := 13, ground := Ground.guard }], guard := some (13, false) }) (v := ?_) rfl (by kernel_rfl) (by kernel_rfl) (by kernel_rfl) (fun _ _ _ h => h) (Or.inl ⟨by rfl, ?_⟩) (by assumption) ?_
        rotate_left
        · intro w hSw
          try dsimp only at hSw
          go_simp <;> with_reducible rfl
        try simp only [Act.put, List.setIfInBounds_toArray, List.set_cons_zero, List.set_cons_succ]
        refine wpAnyH_take (i := 21) (oi := { dst := some 81, op := Op.move (Operand.tmp 11), type := 41, pos := "law.go:74", after := #[{ on := 13, ground := Ground.guard }], guard := some (13, false) }) (v := ?_) rfl (by kernel_rfl) (by kernel_rfl) (by kernel_rfl) (fun _ _ _ h => h) (Or.inl ⟨by rfl, ?_⟩) (by assumption) ?_
        rotate_left
        · intro w hSw
          try dsimp only at hSw
          go_simp <;> with_reducible rfl
        try simp only [Act.put, List.setIfInBounds_toArray, List.set_cons_zero, List.set_cons_succ]
        refine wpAnyH_take (i := 22) (oi := { dst := some 82, op := Op.move (Operand.tmp 1), type := 34, pos := "law.go:74", after := #[{ on := 13, ground := Ground.guard }], guard := some (13, false) }) (v := ?_) rfl (by kernel_rfl) (by kernel_rfl) (by kernel_rfl) (fun _ _ _ h => h) (Or.inl ⟨by rfl, ?_⟩) (by assumption) ?_
        rotate_left
        · intro w hSw
          try dsimp only at hSw
          go_simp <;> with_reducible rfl
        try simp only [Act.put, List.setIfInBounds_toArray, List.set_cons_zero, List.set_cons_succ]
        refine wpAnyH_take (i := 23) (oi := { dst := some 83, op := Op.move (Operand.tmp 12), type := 3, pos := "law.go:74", after := #[{ on := 13, ground := Ground.guard }], guard := some (13, false) }) (v := ?_) rfl (by kernel_rfl) (by kernel_rfl) (by kernel_rfl) (fun _ _ _ h => h) (Or.inl ⟨by rfl, ?_⟩) (by assumption) ?_
        rotate_left
        · intro w hSw
          try dsimp only at hSw
          go_simp <;> with_reducible rfl
        try simp only [Act.put, List.setIfInBounds_toArray, List.set_cons_zero, List.set_cons_succ]
        refine wpAnyH_take (i := 24) (oi := { dst := some 84, op := Op.indexAddr 34 (Operand.tmp 82) (Operand.tmp 83), type := 0, pos := "law.go:74", after := #[{ on := 22, ground := Ground.data }, { on := 23, ground := Ground.data }, { on := 13, ground := Ground.guard }], guard := some (13, false) }) (v := ?_) rfl (by kernel_rfl) (by kernel_rfl) (by kernel_rfl) (fun _ _ _ h => h) (Or.inl ⟨by rfl, ?_⟩) (by assumption) ?_
        rotate_left
        · intro w hSw
          try dsimp only at hSw
          go_simp <;> with_reducible rfl
        try simp only [Act.put, List.setIfInBounds_toArray, List.set_cons_zero, List.set_cons_succ]
        refine wpAnyH_take (i := 25) (oi := { dst := some 85, op := Op.fieldAddr 30 (Operand.tmp 84) 0, type := 0, pos := "law.go:74", after := #[{ on := 24, ground := Ground.data }, { on := 13, ground := Ground.guard }], guard := some (13, false) }) (v := ?_) rfl (by kernel_rfl) (by kernel_rfl) (by kernel_rfl) (fun _ _ _ h => h) (Or.inl ⟨by rfl, ?_⟩) (by assumption) ?_
        rotate_left
        · intro w hSw
          try dsimp only at hSw
          go_simp <;> with_reducible rfl
        try simp only [Act.put, List.setIfInBounds_toArray, List.set_cons_zero, List.set_cons_succ]
        refine wpAnyH_take (i := 26) (oi := { dst := some 86, op := Op.load 3 (Operand.tmp 85), type := 3, pos := "law.go:74", after := #[{ on := 25, ground := Ground.data }, { on := 13, ground := Ground.guard }], guard := some (13, false) }) (v := ?_) rfl (by kernel_rfl) (by kernel_rfl) (by kernel_rfl) (fun _ _ _ h => h) (Or.inl ⟨by rfl, ?_⟩) (by assumption) ?_
        rotate_left
        · intro w hSw
          try dsimp only at hSw
          go_simp <;> with_reducible rfl
        try simp only [Act.put, List.setIfInBounds_toArray, List.set_cons_zero, List.set_cons_succ]
        refine wpAnyH_ready (rs := [20]) (by kernel_rfl) (by simp) ?_
        refine AllReadyH.cons (o := { dst := some 80, op := Op.call { callee := Callee.value (Operand.func 18), args := #[Operand.tmp 74, Operand.tmp 79], argTypes := #[22, 3] }, type := 3, pos := "law.go:74", after := #[{ on := 14, ground := Ground.data }, { on := 19, ground := Ground.data }, { on := 13, ground := Ground.chain }, { on := 13, ground := Ground.guard }], guard := some (13, false) }) rfl (fun K hK => ?_) AllReadyH.nil
        go_simp
        refine (mine_room xb hD2.mine).mono ?_
        rintro e w8 ⟨rfl, hb8⟩
        have hD3 := hD2.below hb8
        clear hb8
        obtain ⟨A', c', hf, _⟩ := hD3.field
        try (go_wp2_with fail)
        refine hK.out _ _ ?_ (fun hHeld => ?_)
        · exact HCL.out _ hD3.old
        clear hK K
        try simp only [Act.put, List.setIfInBounds_toArray, List.set_cons_zero, List.set_cons_succ]
        refine wpAnyH_ready (rs := [27]) (by kernel_rfl) (by simp) ?_
        refine AllReadyH.cons (o := { dst := some 87, op := Op.call { callee := Callee.value (Operand.func 19), args := #[Operand.tmp 81, Operand.tmp 86], argTypes := #[41, 3] }, type := 3, pos := "law.go:74", after := #[{ on := 21, ground := Ground.data }, { on := 26, ground := Ground.data }, { on := 20, ground := Ground.chain }, { on := 13, ground := Ground.guard }], guard := some (13, false) }) rfl (fun K hK => ?_) AllReadyH.nil
        go_simp
        refine (duo_rroom xb hD3).mono ?_
        rintro e w9 ⟨rfl, rfl⟩
        try (go_wp2_with fail)
        refine hK.out _ _ ?_ (fun hHeld => ?_)
        · exact HCL.out _ hD3.old
        clear hK K
        try simp only [Act.put, List.setIfInBounds_toArray, List.set_cons_zero, List.set_cons_succ]
        refine wpAnyH_swap (S' := (fun w' => w'.cell? ⟨b, o + k * 4, none⟩ = some (.int .i64 xb) ∧ w'.cell? ⟨b, o + k * 4 + 1, none⟩ = some (.int .i64 xf) ∧ w'.cell? ⟨b, o + k * 4 + 2, none⟩ = some (.int .i64 xt) ∧ w'.cell? ⟨b, o + k * 4 + 3, none⟩ = some (.string xs) ∧ w'.cell? ⟨rb, 1, none⟩ = some (.slice A' (putL n T lg ⟨xb, xf, xt, xs⟩).length c'))) (fun _ h => ⟨h.1, h.2.1, h.2.2.1, h.2.2.2.1⟩) _ _ _ _ ?_
        have hHeld2 : (fun w' => w'.cell? ⟨b, o + k * 4, none⟩ = some (.int .i64 xb) ∧ w'.cell? ⟨b, o + k * 4 + 1, none⟩ = some (.int .i64 xf) ∧ w'.cell? ⟨b, o + k * 4 + 2, none⟩ = some (.int .i64 xt) ∧ w'.cell? ⟨b, o + k * 4 + 3, none⟩ = some (.string xs) ∧ w'.cell? ⟨rb, 1, none⟩ = some (.slice A' (putL n T lg ⟨xb, xf, xt, xs⟩).length c')) w8 := ⟨(HCL.out _ hD3.old).1, (HCL.out _ hD3.old).2.1, (HCL.out _ hD3.old).2.2.1, (HCL.out _ hD3.old).2.2.2, hf⟩
        refine wpAnyH_take (i := 28) (oi := { dst := some 88, op := Op.binOp BinOp.neq 3 (Operand.tmp 80) (Operand.tmp 87) 3, type := 4, pos := "law.go:74", after := #[{ on := 20, ground := Ground.data }, { on := 27, ground := Ground.data }, { on := 13, ground := Ground.guard }], guard := some (13, false) }) (v := ?_) rfl (by kernel_rfl) (by kernel_rfl) (by kernel_rfl) (fun _ _ _ h => h) (Or.inl ⟨by rfl, ?_⟩) (by assumption) ?_
        rotate_left
        · intro w hSw
          try dsimp only at hSw
          go_simp <;> with_reducible rfl
        try simp only [Act.put, List.setIfInBounds_toArray, List.set_cons_zero, List.set_cons_succ]
        refine wpAnyH_take (i := 29) (oi := { dst := some 89, op := Op.pick (Operand.tmp 73) (Operand.const (Value.bool true)) (Operand.tmp 88), type := 4, pos := "law.go:74", after := #[{ on := 13, ground := Ground.data }, { on := 28, ground := Ground.data }], guard := none }) (v := ?_) rfl (by kernel_rfl) (by kernel_rfl) (by kernel_rfl) (fun _ _ _ h => h) (Or.inl ⟨by rfl, ?_⟩) (by assumption) ?_
        rotate_left
        · intro w hSw
          try dsimp only at hSw
          go_simp <;> with_reducible rfl
        try simp only [Act.put, List.setIfInBounds_toArray, List.set_cons_zero, List.set_cons_succ]
        refine wpAnyH_take (i := 30) (oi := { dst := some 90, op := Op.move (Operand.tmp 89), type := 4, pos := "law.go:74", after := #[{ on := 29, ground := Ground.data }, { on := 27, ground := Ground.chain }], guard := none }) (v := ?_) rfl (by kernel_rfl) (by kernel_rfl) (by kernel_rfl) (fun _ _ _ h => h) (Or.inl ⟨by rfl, ?_⟩) (by assumption) ?_
        rotate_left
        · intro w hSw
          try dsimp only at hSw
          go_simp <;> with_reducible rfl
        try simp only [Act.put, List.setIfInBounds_toArray, List.set_cons_zero, List.set_cons_succ]
        refine wpAnyH_take (i := 31) (oi := { dst := some 91, op := Op.move (Operand.tmp 9), type := 22, pos := "law.go:74", after := #[{ on := 30, ground := Ground.guard }], guard := some (30, false) }) (v := ?_) rfl (by kernel_rfl) (by kernel_rfl) (by kernel_rfl) (fun _ _ _ h => h) (Or.inl ⟨by rfl, ?_⟩) (by assumption) ?_
        rotate_left
        · intro w hSw
          try dsimp only at hSw
          go_simp <;> with_reducible rfl
        try simp only [Act.put, List.setIfInBounds_toArray, List.set_cons_zero, List.set_cons_succ]
        refine wpAnyH_take (i := 33) (oi := { dst := some 93, op := Op.move (Operand.tmp 11), type := 41, pos := "law.go:74", after := #[{ on := 30, ground := Ground.guard }], guard := some (30, false) }) (v := ?_) rfl (by kernel_rfl) (by kernel_rfl) (by kernel_rfl) (fun _ _ _ h => h) (Or.inl ⟨by rfl, ?_⟩) (by assumption) ?_
        rotate_left
        · intro w hSw
          try dsimp only at hSw
          go_simp <;> with_reducible rfl
        try simp only [Act.put, List.setIfInBounds_toArray, List.set_cons_zero, List.set_cons_succ]
        refine wpAnyH_take (i := 34) (oi := { dst := some 94, op := Op.nilCheck (Operand.tmp 93), type := 0, pos := "law.go:74", after := #[{ on := 33, ground := Ground.data }, { on := 30, ground := Ground.guard }], guard := some (30, false) }) (v := ?_) rfl (by kernel_rfl) (by kernel_rfl) (by kernel_rfl) (fun _ _ _ h => h) (Or.inl ⟨by rfl, ?_⟩) (by assumption) ?_
        rotate_left
        · intro w hSw
          try dsimp only at hSw
          go_simp <;> with_reducible rfl
        try simp only [Act.put, List.setIfInBounds_toArray, List.set_cons_zero, List.set_cons_succ]
        refine wpAnyH_take (i := 35) (oi := { dst := some 95, op := Op.fieldAddr 44 (Operand.tmp 94) 1, type := 0, pos := "law.go:74", after := #[{ on := 34, ground := Ground.data }, { on := 30, ground := Ground.guard }], guard := some (30, false) }) (v := ?_) rfl (by kernel_rfl) (by kernel_rfl) (by kernel_rfl) (fun _ _ _ h => h) (Or.inl ⟨by rfl, ?_⟩) (by assumption) ?_
        rotate_left
        · intro w hSw
          try dsimp only at hSw
          go_simp <;> with_reducible rfl
        try simp only [Act.put, List.setIfInBounds_toArray, List.set_cons_zero, List.set_cons_succ]
        refine wpAnyH_take (i := 36) (oi := { dst := some 96, op := Op.load 42 (Operand.tmp 95), type := 42, pos := "law.go:74", after := #[{ on := 35, ground := Ground.data }, { on := 30, ground := Ground.guard }], guard := some (30, false) }) (v := ?_) rfl (by kernel_rfl) (by kernel_rfl) (by kernel_rfl) (fun _ _ _ h => h) (Or.inl ⟨by rfl, ?_⟩) (by assumption) ?_
        rotate_left
        · intro w hSw
          try dsimp only at hSw
          go_simp <;> with_reducible rfl
        try simp only [Act.put, List.setIfInBounds_toArray, List.set_cons_zero, List.set_cons_succ]
        refine wpAnyH_take (i := 37) (oi := { dst := some 97, op := Op.call { callee := Callee.builtin Builtin.len, args := #[Operand.tmp 96], argTypes := #[42] }, type := 3, pos := "law.go:74", after := #[{ on := 36, ground := Ground.data }, { on := 30, ground := Ground.guard }], guard := some (30, false) }) (v := ?_) rfl (by kernel_rfl) (by kernel_rfl) (by kernel_rfl) (fun _ _ _ h => h) (Or.inl ⟨by rfl, ?_⟩) (by assumption) ?_
        rotate_left
        · intro w hSw
          try dsimp only at hSw
          go_simp <;> with_reducible rfl
        try simp only [Act.put, List.setIfInBounds_toArray, List.set_cons_zero, List.set_cons_succ]
        refine wpAnyH_ready (rs := [32]) (by kernel_rfl) (by simp) ?_
        refine AllReadyH.cons (o := { dst := some 92, op := Op.call { callee := Callee.value (Operand.func 12), args := #[Operand.tmp 91], argTypes := #[22] }, type := 3, pos := "law.go:74", after := #[{ on := 31, ground := Ground.data }, { on := 30, ground := Ground.chain }, { on := 30, ground := Ground.guard }], guard := some (30, false) }) rfl (fun K hK => ?_) AllReadyH.nil
        go_simp
        refine (mine_len hD3.mine).mono ?_
        rintro e w9 ⟨rfl, rfl⟩
        try (go_wp2_with fail)
        refine hK.out _ _ ?_ (fun hHeld => ?_)
        · exact hHeld2
        clear hK K
        try simp only [Act.put, List.setIfInBounds_toArray, List.set_cons_zero, List.set_cons_succ]
        refine wpAnyH_take (i := 38) (oi := { dst := some 98, op := Op.binOp BinOp.neq 3 (Operand.tmp 92) (Operand.tmp 97) 3, type := 4, pos := "law.go:74", after := #[{ on := 32, ground := Ground.data }, { on := 37, ground := Ground.data }, { on := 30, ground := Ground.guard }], guard := some (30, false) }) (v := ?_) rfl (by kernel_rfl) (by kernel_rfl) (by kernel_rfl) (fun _ _ _ h => h) (Or.inl ⟨by rfl, ?_⟩) (by assumption) ?_
        rotate_left
        · intro w hSw
          try dsimp only at hSw
          go_simp <;> with_reducible rfl
        try simp only [Act.put, List.setIfInBounds_toArray, List.set_cons_zero, List.set_cons_succ]
        refine wpAnyH_take (i := 39) (oi := { dst := some 99, op := Op.pick (Operand.tmp 90) (Operand.const (Value.bool true)) (Operand.tmp 98), type := 4, pos := "law.go:74", after := #[{ on := 30, ground := Ground.data }, { on := 38, ground := Ground.data }], guard := none }) (v := ?_) rfl (by kernel_rfl) (by kernel_rfl) (by kernel_rfl) (fun _ _ _ h => h) (Or.inl ⟨by rfl, ?_⟩) (by assumption) ?_
        rotate_left
        · intro w hSw
          try dsimp only at hSw
          go_simp <;> with_reducible rfl
        try simp only [Act.put, List.setIfInBounds_toArray, List.set_cons_zero, List.set_cons_succ]
        refine wpAnyH_done (by kernel_rfl) ?_ _
        refine NoPanic.normal ?_
        go_wp2_with fail
        go_meet
        exact ⟨rfl, hD3⟩
      case rest =>
        obtain ⟨rfl, hD⟩ := hcut
        have HD := Lib.hid hD
        clear hD hD0 hDr HCL
        go_wp2
        go_roundw
        case rel => exact ⟨k + 1, by omega, by go_num, by rw [HG1.out]; exact HD.out⟩
        case measure => simp [intOf]; omega
    · have hkm : k = m := by omega
      subst hkm
      have hll := gL_len n T X k
      have HD := Lib.hid hD
      clear hD
      generalize gL n T X k = l at hll HD
      obtain ⟨i0, hi, hz0, hz1, hz2⟩ := info_parts info_ent
      have HI := Lib.hid hi; have HZ0 := Lib.hid hz0; have HZ1 := Lib.hid hz1; have HZ2 := Lib.hid hz2
      clear hi hz0 hz1 hz2
      obtain ⟨w10, hw10⟩ : ∃ w10, w10 = wr := ⟨_, rfl⟩
      subst hw10
      go_wp2
      go_loopw [13, 14] (fun r i wr => ∃ q : Nat, q ≤ l.length ∧ i = .int .i64 q ∧ Ents wr w10.heap.size r (l.take q) ∧ Below w10.heap.size w10 wr) (fun _ i _ => l.length - (intOf i).toNat)
      case atStart => exact ⟨0, Nat.zero_le _, rfl, ⟨rfl, Or.inl ⟨rfl, rfl⟩⟩, Below.refl _ _⟩
      case round =>
        obtain ⟨q, hq, rfl, hown, hBw⟩ := hrel
        have HDr := Lib.hid (HD.out.below hBw)
        have HO := Lib.hid hown
        have HBW := Lib.hid hBw
        clear hown hBw
        by_cases hql : q < l.length
        · have htk := take_snoc' l q hql
          have HAT := Lib.hid (mine_at q hql HDr.out.mine)
          generalize l[q] = y at htk HAT
          obtain ⟨yb, yf, yt, ys⟩ := y
          have HTK := Lib.hid htk
          clear htk
          have hln : (l.take q).length ≤ q := List.length_take_le _ _
          have hq200 : (q : Int) < 200 := by omega
          go_wp2_with (go_at_call 12; refine (mine_len HDr.out.mine).mono ?_; rintro e w' ⟨rfl, rfl⟩)
          refine HAT.out.mono ?_
          rintro e w11 ⟨rfl, hb⟩
          have HO11 := Lib.hid (show Ents w11 w10.heap.size _ (l.take q) from ents_block HO.out fun g hg => hb.block g (ents_lt HO.out hg))
          have HB11 := Lib.hid (HBW.out.trans (hb.mono HBW.out.size))
          clear hb HAT HBW HDr
          unfold Ent.val
          go_wp2_with (at_builtin; refine wpList_append_own _ rfl (.tmp 118) (.tmp 120) 34 rfl w10.heap.size 30 i0 _ 4 40 Try.underlying34 HI.out HZ0.out HZ1.out HZ2.out rfl (by decide) _ _ _ rfl (World.ownsRow.alloc (World.ownsRow.alloc HO11.out _) _) ⟨w11.heap.size + 1, 0, none⟩ 1 1 (Ent.cells ⟨yb, yf, yt, ys⟩) rfl rfl ?c1 ?c2 ?c3 ?c4 ?c5 ?_)
          case c1 => exact news_ent (x := ⟨yb, yf, yt, ys⟩) (by rw [show w11.heap.size + 1 = (w11.alloc _).heap.size from by simp]; exact heap_alloc_new _ _)
          case c2 => exact one_ent _
          case c3 => unfold maxLen; omega
          case c4 => omega
          case c5 => have := HB11.out.size; simp; omega
          intro v' w12 hown' hg _
          have HO2 := Lib.hid (show Ents w12 w10.heap.size v' (l.take (q + 1)) from by rw [HTK.out]; exact ents_snoc (by rw [List.length_take]; omega) hown')
          have HB2 := Lib.hid (((HB11.out.alloc (by have := HB11.out.size; omega) _).alloc (by have := HB11.out.size; simp; omega) _).grown hg (by have := HB11.out.size; simp; omega) (ents_ge HO11.out))
          clear hown' hg HO HO11 HB11
          go_wp2
          go_roundw
          case rel => exact ⟨q + 1, by omega, by go_num, HO2.out, HB2.out⟩
          case measure => simp [intOf]; omega
        · have hqe : q = l.length := by omega
          subst hqe
          rw [List.take_length] at HO
          obtain ⟨A1, c1, rfl, _⟩ := ents_shape HO.out
          go_wp2_with (go_at_call 12; refine (mine_len HDr.out.mine).mono ?_; rintro e w' ⟨rfl, rfl⟩)
          refine (mine_off l.length (Or.inr (Int.le_refl _)) HDr.out.mine).mono ?_
          rintro e w11 ⟨rfl, hb⟩
          have HO11 := Lib.hid (World.ownsRow.alloc (ents_block HO.out fun g hg => hb.block g (ents_lt HO.out hg)) (.cells #[.int .i64 0, .int .i64 0, .int .i64 0, .string ⟨#[]⟩] 30))
          have HD11 := Lib.hid ((HDr.out.below hb).alloc (.cells #[.int .i64 0, .int .i64 0, .int .i64 0, .string ⟨#[]⟩] 30))
          clear hb HO HDr HBW
          unfold noEnt
          go_wp2_with fail
          refine (mine_off (-1) (Or.inl (by decide)) HD11.out.mine).mono ?_
          rintro e w12 ⟨rfl, hb⟩
          have HO12 := Lib.hid (show Ents _ _ _ l from World.ownsRow.alloc (ents_block HO11.out fun g hg => hb.block g (ents_lt HO11.out hg)) (.cells #[.int .i64 0, .int .i64 0, .int .i64 0, .string ⟨#[]⟩] 30))
          have HD12 := Lib.hid ((HD11.out.below hb).alloc (.cells #[.int .i64 0, .int .i64 0, .int .i64 0, .string ⟨#[]⟩] 30))
          clear hb HO11 HD11
          unfold noEnt
          obtain ⟨A', c', hf, hre⟩ := HD12.out.field
          have HS1 := Lib.hid (same_any HO12.out hre)
          clear hre
          go_wp2_with fail
          refine HS1.out.mono ?_
          rintro e w13 ⟨rfl, q1, hw13⟩
          have HD13 := Lib.hid (show Duo w w13 w.heap.size gb rb lb A n cap T l l from by rw [hw13]; exact HD12.out.drewN q1)
          clear hw13 HS1 HD12 HO12 hf
          go_wp2_with fail
          refine (mine_seen x HD13.out.mine (by omega)).mono ?_
          rintro e w14 ⟨A3, c3, rfl, ho3, hb⟩
          have HD14 := Lib.hid (HD13.out.below hb)
          have HO3 := Lib.hid ho3
          clear hb ho3 HD13
          go_wp2_with fail
          refine (duo_rseen x HD14.out (by omega)).mono ?_
          rintro e w15 ⟨A4, c4, rfl, ho4, hb⟩
          have HD15 := Lib.hid (HD14.out.below hb)
          have HS2 := Lib.hid (same_any (ents_block HO3.out fun g hg => hb.block g (ents_lt HO3.out hg)) ho4)
          clear hb ho4 HD14 HO3
          go_wp2_with fail
          refine HS2.out.mono ?_
          rintro e w16 ⟨rfl, q2, hw16⟩
          have HD16 := Lib.hid (show Duo w w16 w.heap.size gb rb lb A n cap T l l from by rw [hw16]; exact HD15.out.drewN q2)
          clear hw16 HS2 HD15
          go_wp2_with fail
          refine (mine_room x HD16.out.mine).mono ?_
          rintro e w17 ⟨rfl, hb⟩
          have HD17 := Lib.hid (HD16.out.below hb)
          clear hb HD16
          go_wp2_with fail
          refine (duo_rroom x HD17.out).mono ?_
          rintro e w18 ⟨rfl, rfl⟩
          go_wp2
          go_ret
          exact ⟨ret_bool (by simp), HD17.out.old⟩
end Go.Proofs.Ytjfonbkeamhnmaa
