/- Layer 2: AuditApart's walk. -/
import Derived.Test.YtjfonbkeamhnmaaAudK
namespace Go.Proofs.Ytjfonbkeamhnmaa
open Go.RowKit Lat

/-- Put beside a block that was made since. -/
theorem two_put_box {w0 w : World} {B gb hb lb n : Nat} {T : Nat → Nat → Bool} {lg lh : List Ent} (x : Ent) (o : Obj) (h : Two w0 w B gb hb lb n T lg lh) (hs : x.s.size ≤ 9223372036854775807) (hlen : lg.length ≤ 100000) :
    Calls Try.prog 9 #[.pointer (some ⟨gb, 0, none⟩), x.val] (w.alloc o) fun e w' => (e = .returned (.int .i64 (putErr n T lg x)) ∧ Two w0 w' B gb hb lb n T (putL n T lg x) lh) ∧ w'.heap[w.heap.size]? = some o ∧ w.heap.size < w'.heap.size := by
  have h' := h.alloc o
  obtain ⟨vg, vh, h1, h2, h3, h4, h5⟩ := h.logs
  have h1' := h1.alloc o
  have h2' := h2.alloc o
  refine (put_any gb lb n T vg lg x _ h1' hs hlen).mono ?_
  rintro e w' ⟨v', he, hl', hm⟩
  obtain ⟨hB, hv'⟩ := hm.below h'.g_ h3 h'.sz
  have hhb := lt_of h2'.blk
  have hgb := lt_of h1.blk
  have hsz := hm.size
  simp at hsz
  refine ⟨⟨he, ⟨v', vh, hl', ⟨?_, hl'.lat, ?_⟩, hv', h4, ?_⟩, h'.ne, h'.g_, h'.h_, h'.old.trans hB, Nat.le_trans h'.sz hm.size⟩, ?_, by omega⟩
  · exact (hm.block hb hhb (fun e => h.ne e.symm) (ents_ne h1'.own h2'.blk)).trans h2'.blk
  · exact ents_block h2'.own fun k hk => hm.block k (ents_lt h2'.own hk) (fun e => ents_ne h2'.own h1'.blk (by rw [hk, e])) (fun e => h5 k e hk)
  · intro k hk hk'
    have hlt := ents_lt h2'.own hk'
    rcases hm.own with e | ⟨g', e, hg'⟩
    · exact h5 k (by rw [← e]; exact hk) hk'
    · rw [e] at hk
      injection hk with hk
      omega
  · exact (hm.block w.heap.size (by simp) (by omega) (fun e => by have := ents_lt h1.own e; omega)).trans (heap_alloc_new w o)

theorem len_facts (p : Int) (a c : Nat) (h : c = if p = 0 then a + 1 else a) : ((c : Int) == (a : Int) + 1) = (p == 0) ∧ decide ((a : Int) + 1 < (c : Int)) = false ∧ c ≤ a + 1 ∧ a ≤ c := by
  by_cases hp : p = 0
  · rw [if_pos hp] at h
    subst h hp
    refine ⟨by simp, by simp, by omega, by omega⟩
  · rw [if_neg hp] at h
    subst h
    have h1 : (p == 0) = false := by simpa using hp
    rw [h1]
    refine ⟨?_, by simp; omega, by omega, by omega⟩
    rw [beq_eq_false_iff_ne]
    omega

theorem rank_okU (a0 a1 : Int) (_h0 : 0 ≤ a0) (_h1 : 0 ≤ a1) : rankOk (1 + a0 % 4) (a1 % 3) := by
  have h2 : a0 % 4 = 0 ∨ a0 % 4 = 1 ∨ a0 % 4 = 2 ∨ a0 % 4 = 3 := by omega
  have h3 : a1 % 3 = 0 ∨ a1 % 3 = 1 ∨ a1 % 3 = 2 := by omega
  rcases h2 with h2 | h2 | h2 | h2 <;> rcases h3 with h3 | h3 | h3 <;> rw [h2, h3] <;> unfold rankOk <;> decide

set_option maxRecDepth 100000 in
set_option maxHeartbeats 4000000 in
theorem apart_any (a0 a1 : Int) (m cap : Nat) (A : Option Addr) (X : Nat → Ent) (x : Int) (w : World) (h00 : 0 ≤ a0) (h01 : a0 ≤ 255) (h10 : 0 ≤ a1) (h11 : a1 ≤ 255) (hE : EntsIn w w.heap.size A m X) (hm : m ≤ 9223372036854775807) :
    Calls Try.prog 6 #[.int .u8 a0, .int .u8 a1, .slice A m cap, .int .i64 x] w fun e w' => e = .returned (.bool true) ∧ Below w.heap.size w w' := by
  have HE := Lib.hid hE
  clear hE
  go_enter Try.func6, Try.ntmps6
  go_wp2_with fail
  refine (awake_any w).mono ?_
  rintro e w1 ⟨rfl, hB⟩
  have HE1 := Lib.hid (HE.out.below hB)
  have HB := Lib.hid hB
  clear hB
  go_wp2_with fail
  refine (great_any 0 0 m cap w.heap.size none A (fun _ => 0) (fun _ _ => false) X w1 (Grid.nil _ _ _ _) HE1.out (by omega) hm).mono ?_
  rintro e w2 ⟨g, rfl, rfl, hg⟩
  cases g
  case true =>
    clear hg
    go_wp2
    go_ret
    exact ⟨rfl, HB.out⟩
  obtain ⟨_, hm100, _⟩ := hg rfl
  clear hg hm
  have q0 : 0 ≤ a0 % 4 := by omega
  have q1 : a0 % 4 ≤ 3 := by omega
  have q2 : 0 ≤ a1 % 3 := by omega
  have q3 : a1 % 3 ≤ 2 := by omega
  go_wp2_with fail
  refine (rank_any (1 + a0 % 4) (a1 % 3) w1).mono ?_
  rintro e w3 ⟨hB3, ⟨hno, _⟩ | ⟨_, lb, rfl, hl3, hI3⟩⟩
  · exact absurd (rank_okU a0 a1 h00 h10) hno
  generalize (1 + a0 % 4).toNat * 2 ^ (a1 % 3).toNat = N at hI3
  generalize rankT (1 + a0 % 4).toNat = T at hI3
  have HB3 := Lib.hid (HB.out.trans (hB3.mono HB.out.size))
  have HI3 := Lib.hid hI3
  clear hI3 hB3 HB HE1 hl3
  go_wp2_with fail
  refine (mine_new HI3.out HB3.out HB3.out.size).mono ?_
  rintro e w4 ⟨gb, rfl, hM4⟩
  have HM4 := Lib.hid hM4
  have HI4 := Lib.hid (show IsLat w4 lb N T from by obtain ⟨v, hl, _⟩ := hM4.log; exact hl.lat)
  clear hM4
  go_wp2_with fail
  refine (two_new HM4.out HI4.out).mono ?_
  rintro e w5 ⟨hb, rfl, hT5⟩
  have HT5 := Lib.hid hT5
  clear hT5 HM4 HI4 HI3 HB3
  go_wp2
  go_loopw [15] (fun i wr => ∃ k : Nat, k ≤ m ∧ i = .int .i64 k ∧ Two w wr w.heap.size gb hb lb N T (gL N T X k) (hL N T X x k)) (fun i _ => m - (intOf i).toNat)
  case atStart => exact ⟨0, Nat.zero_le _, rfl, HT5.out⟩
  case round =>
    obtain ⟨k, hk, rfl, hT⟩ := hrel
    clear HT5
    by_cases hlt : k < m
    · obtain ⟨b, o, rfl, hbB, hsz, _⟩ := HE.out.at_ hlt
      have hlg := gL_len N T X k
      have hlh := hL_len N T X x k
      have HG1 := Lib.hid (show gL N T X (k + 1) = putL N T (gL N T X k) (X k) from rfl)
      have HH1 := Lib.hid (show hL N T X x (k + 1) = if belowV N T (X k).b x then putL N T (hL N T X x k) (X k) else hL N T X x k from rfl)
      have HQ := Lib.hid (putErr_same N T X x k)
      have hcl : ∀ wr' : World, Below w.heap.size w wr' → wr'.cell? ⟨b, o + k * 4, none⟩ = some (.int .i64 (X k).b) ∧ wr'.cell? ⟨b, o + k * 4 + 1, none⟩ = some (.int .i64 (X k).f) ∧ wr'.cell? ⟨b, o + k * 4 + 2, none⟩ = some (.int .i64 (X k).t) ∧ wr'.cell? ⟨b, o + k * 4 + 3, none⟩ = some (.string (X k).s) := by
        intro wr' hB'
        obtain ⟨b', o', e, _, _, hcs⟩ := (HE.out.below hB').at_ hlt
        injection e with e
        injection e with e1 e2
        subst e1 e2
        exact hcs
      have HCL := Lib.hid hcl
      have hpl := putL_len N T (gL N T X k) (X k)
      have hdp := hd_put N T (gL N T X k) (X k)
      have HT := Lib.hid hT
      clear hT hcl
      obtain ⟨xv, hxv⟩ : ∃ xv, xv = X k := ⟨_, rfl⟩
      rw [← hxv] at HG1 HH1 HQ HCL hpl hdp hsz
      obtain ⟨lg, hlgv⟩ : ∃ lg, lg = gL N T X k := ⟨_, rfl⟩
      obtain ⟨lh, hlhv⟩ : ∃ lh, lh = hL N T X x k := ⟨_, rfl⟩
      rw [← hlgv] at HG1 HQ hpl hdp HT hlg
      rw [← hlhv] at HH1 HQ HT hlh
      clear hxv hlgv hlhv
      obtain ⟨xb, xf, xt, xs⟩ := xv
      obtain ⟨p, hp⟩ : ∃ p, p = putErr N T lg ⟨xb, xf, xt, xs⟩ := ⟨_, rfl⟩
      rw [← hp] at hpl HQ
      obtain ⟨lg', hlg'⟩ : ∃ lg', lg' = putL N T lg ⟨xb, xf, xt, xs⟩ := ⟨_, rfl⟩
      rw [← hlg'] at hpl HG1 hdp
      obtain ⟨bo, hbo⟩ : ∃ bo : Bool, bo = (p == 0) := ⟨_, rfl⟩
      have hln := len_facts p lg.length lg'.length hpl
      have e2 : ((lg'.length : Int) == (lg.length : Int) + 1) = bo := by rw [hbo]; exact hln.1
      have e3 : decide ((lg.length : Int) + 1 < (lg'.length : Int)) = false := hln.2.1
      have e1 : (p == 0) = bo := hbo.symm
      have hlg2 : lg'.length ≤ 101 := by have := hln.2.2.1; omega
      have HLN := Lib.hid hln.2.2.2
      clear hln
      have HP := Lib.hid hp
      have HL' := Lib.hid hlg'
      have HD := Lib.hid hdp
      have HPB := Lib.hid (fun (wz : World) (ob : Obj) (hz : Two w wz w.heap.size gb hb lb N T lg lh) => two_put_box ⟨xb, xf, xt, xs⟩ ob hz hsz (by omega))
      have HPH := Lib.hid (fun (wz : World) (hz : Two w wz w.heap.size gb hb lb N T lg' lh) => two_put ⟨xb, xf, xt, xs⟩ hz.swap hsz (by omega))
      clear hp hlg' hdp hbo hpl
      go_wp2_with (go_at_call 12; refine (mine_len HT.out.fst).mono ?_; rintro e w' ⟨rfl, rfl⟩)
      refine (mine_at0 HT.out.fst).mono ?_
      rintro e w6 ⟨rfl, hb6⟩
      have HT6 := Lib.hid (HT.out.below hb6)
      clear hb6 HT
      obtain ⟨z, hz⟩ : ∃ z, z = hd lg := ⟨_, rfl⟩
      rw [← hz]
      have HZ := Lib.hid hz
      clear hz
      obtain ⟨zb, zf, zt, zs⟩ := z
      unfold Ent.val
      have k0 : ∀ ob, (w6.alloc ob).cell? ⟨b, o + k * 4, none⟩ = some (.int .i64 xb) := fun ob => (HCL.out _ (HT6.out.alloc ob).old).1
      have k1 : ∀ ob, (w6.alloc ob).cell? ⟨b, o + k * 4 + 1, none⟩ = some (.int .i64 xf) := fun ob => (HCL.out _ (HT6.out.alloc ob).old).2.1
      have k2 : ∀ ob, (w6.alloc ob).cell? ⟨b, o + k * 4 + 2, none⟩ = some (.int .i64 xt) := fun ob => (HCL.out _ (HT6.out.alloc ob).old).2.2.1
      have k3 : ∀ ob, (w6.alloc ob).cell? ⟨b, o + k * 4 + 3, none⟩ = some (.string xs) := fun ob => (HCL.out _ (HT6.out.alloc ob).old).2.2.2
      cases hwas : decide (0 < lg.length)
      · go_wp2_with fail
        refine (HPB.out w6 _ HT6.out).mono ?_
        rintro e w7 ⟨⟨rfl, hT7⟩, hbox, hlt7⟩
        rw [← HP.out]
        rw [← HL'.out] at hT7
        have HT7 := Lib.hid hT7
        have HBX := Lib.hid hbox
        clear hT7 HT6 k0 k1 k2 k3 hbox
        go_wp2_with (go_at_call 12; refine (mine_len HT7.out.fst).mono ?_; rintro e w' ⟨rfl, rfl⟩)
        refine (mine_at0 HT7.out.fst).mono ?_
        rintro e w8 ⟨rfl, hb8⟩
        have HT8 := Lib.hid (HT7.out.below hb8)
        generalize hd lg' = y
        obtain ⟨yb, yf, yt, ys⟩ := y
        unfold Ent.val
        clear hb8 HT7
        have k0 : ∀ ob, (w8.alloc ob).cell? ⟨b, o + k * 4, none⟩ = some (.int .i64 xb) := fun ob => (HCL.out _ (HT8.out.alloc ob).old).1
        have k1 : ∀ ob, (w8.alloc ob).cell? ⟨b, o + k * 4 + 1, none⟩ = some (.int .i64 xf) := fun ob => (HCL.out _ (HT8.out.alloc ob).old).2.1
        have k2 : ∀ ob, (w8.alloc ob).cell? ⟨b, o + k * 4 + 2, none⟩ = some (.int .i64 xt) := fun ob => (HCL.out _ (HT8.out.alloc ob).old).2.2.1
        have k3 : ∀ ob, (w8.alloc ob).cell? ⟨b, o + k * 4 + 3, none⟩ = some (.string xs) := fun ob => (HCL.out _ (HT8.out.alloc ob).old).2.2.2
        go_wp2_with fail
        refine (below_any lb N T xb x _ (HT8.out.alloc _).lat).mono ?_
        rintro e w9 ⟨rfl, rfl⟩
        cases hbx : belowV N T xb x
        · have HHF := Lib.hid (show hL N T X x (k + 1) = lh from by rw [HH1.out, if_neg (by rw [hbx]; simp)])
          go_wp2
          go_roundw
          case rel => exact ⟨k + 1, by omega, by go_num, by rw [HG1.out, HHF.out]; exact HT8.out.alloc _⟩
          case measure => simp [intOf]; omega
        · have HHT := Lib.hid (show hL N T X x (k + 1) = putL N T lh ⟨xb, xf, xt, xs⟩ from by rw [HH1.out, if_pos hbx])
          go_wp2_with fail
          refine (HPH.out _ (HT8.out.alloc _)).mono ?_
          rintro e w10 ⟨rfl, hT10⟩
          rw [HQ.out hbx]
          have HT10 := Lib.hid hT10.swap
          clear hT10
          go_wp2
          go_roundw
          case rel => exact ⟨k + 1, by omega, by go_num, by rw [HG1.out, HHT.out]; exact HT10.out⟩
          case measure => simp [intOf]; omega
      · go_wp2_with fail
        refine (HPB.out w6 _ HT6.out).mono ?_
        rintro e w7 ⟨⟨rfl, hT7⟩, hbox, hlt7⟩
        rw [← HP.out]
        rw [← HL'.out] at hT7
        have HT7 := Lib.hid hT7
        have HBX := Lib.hid hbox
        clear hT7 HT6 k0 k1 k2 k3 hbox
        go_wp2_with (go_at_call 12; refine (mine_len HT7.out.fst).mono ?_; rintro e w' ⟨rfl, rfl⟩)
        refine (mine_at0 HT7.out.fst).mono ?_
        rintro e w8 ⟨rfl, hb8⟩
        have HT8 := Lib.hid (HT7.out.below hb8)
        rw [HD.out (by simpa using hwas), ← HZ.out]
        have hpos : decide (0 < lg'.length) = true := by
          have h1 : 0 < lg.length := by simpa using hwas
          have h2 := HLN.out
          simp
          omega
        rw [hpos]
        clear hpos
        unfold Ent.val
        have v0 : ∀ ob, (w8.alloc ob).cell? ⟨w6.heap.size, 0, none⟩ = some (.int .i64 zb) := fun ob => (World.cell?_alloc_lt w8 ob ⟨w6.heap.size, 0, none⟩ (Nat.lt_of_lt_of_le hlt7 hb8.size)).trans ((bcell hb8 _ 0 hlt7).trans (cell_of HBX.out 0))
        have v1 : ∀ ob, (w8.alloc ob).cell? ⟨w6.heap.size, 1, none⟩ = some (.int .i64 zf) := fun ob => (World.cell?_alloc_lt w8 ob ⟨w6.heap.size, 1, none⟩ (Nat.lt_of_lt_of_le hlt7 hb8.size)).trans ((bcell hb8 _ 1 hlt7).trans (cell_of HBX.out 1))
        have v2 : ∀ ob, (w8.alloc ob).cell? ⟨w6.heap.size, 2, none⟩ = some (.int .i64 zt) := fun ob => (World.cell?_alloc_lt w8 ob ⟨w6.heap.size, 2, none⟩ (Nat.lt_of_lt_of_le hlt7 hb8.size)).trans ((bcell hb8 _ 2 hlt7).trans (cell_of HBX.out 2))
        have v3 : ∀ ob, (w8.alloc ob).cell? ⟨w6.heap.size, 3, none⟩ = some (.string zs) := fun ob => (World.cell?_alloc_lt w8 ob ⟨w6.heap.size, 3, none⟩ (Nat.lt_of_lt_of_le hlt7 hb8.size)).trans ((bcell hb8 _ 3 hlt7).trans (cell_of HBX.out 3))
        clear hb8 HT7
        have k0 : ∀ ob, (w8.alloc ob).cell? ⟨b, o + k * 4, none⟩ = some (.int .i64 xb) := fun ob => (HCL.out _ (HT8.out.alloc ob).old).1
        have k1 : ∀ ob, (w8.alloc ob).cell? ⟨b, o + k * 4 + 1, none⟩ = some (.int .i64 xf) := fun ob => (HCL.out _ (HT8.out.alloc ob).old).2.1
        have k2 : ∀ ob, (w8.alloc ob).cell? ⟨b, o + k * 4 + 2, none⟩ = some (.int .i64 xt) := fun ob => (HCL.out _ (HT8.out.alloc ob).old).2.2.1
        have k3 : ∀ ob, (w8.alloc ob).cell? ⟨b, o + k * 4 + 3, none⟩ = some (.string xs) := fun ob => (HCL.out _ (HT8.out.alloc ob).old).2.2.2
        go_wp2_with fail
        refine (below_any lb N T xb x _ (HT8.out.alloc _).lat).mono ?_
        rintro e w9 ⟨rfl, rfl⟩
        cases hbx : belowV N T xb x
        · have HHF := Lib.hid (show hL N T X x (k + 1) = lh from by rw [HH1.out, if_neg (by rw [hbx]; simp)])
          go_wp2
          go_roundw
          case rel => exact ⟨k + 1, by omega, by go_num, by rw [HG1.out, HHF.out]; exact HT8.out.alloc _⟩
          case measure => simp [intOf]; omega
        · have HHT := Lib.hid (show hL N T X x (k + 1) = putL N T lh ⟨xb, xf, xt, xs⟩ from by rw [HH1.out, if_pos hbx])
          go_wp2_with fail
          refine (HPH.out _ (HT8.out.alloc _)).mono ?_
          rintro e w10 ⟨rfl, hT10⟩
          rw [HQ.out hbx]
          have HT10 := Lib.hid hT10.swap
          clear hT10
          go_wp2
          go_roundw
          case rel => exact ⟨k + 1, by omega, by go_num, by rw [HG1.out, HHT.out]; exact HT10.out⟩
          case measure => simp [intOf]; omega
    · have hkm : k = m := by omega
      subst hkm
      have hlg := gL_len N T X k
      have hlh := hL_len N T X x k
      have S1 := Lib.hid (hL_eq N T X x k)
      have S2 := Lib.hid (seen_hL N T X x k)
      have S3 := Lib.hid (hL_may N T X x k)
      have HT := Lib.hid hT
      clear hT
      generalize hL N T X x k = lh at hlh S1 S2 S3 HT
      generalize gL N T X k = lg at hlg S1 HT
      go_wp2_with fail
      refine (mine_seen x HT.out.fst (by omega)).mono ?_
      rintro e w6 ⟨A1, c1, rfl, ho1, hb6⟩
      rw [← S1.out] at ho1
      rw [← S1.out]
      have HT6 := Lib.hid (HT.out.below hb6)
      have HO1 := Lib.hid ho1
      clear ho1 hb6 HT
      go_wp2_with fail
      refine (mine_seen x HT6.out.snd (by omega)).mono ?_
      rintro e w7 ⟨A2, c2, rfl, ho2, hb7⟩
      rw [S2.out] at ho2
      rw [S2.out]
      have HT7 := Lib.hid (HT6.out.below hb7)
      have HO1' := Lib.hid (ents_block HO1.out fun g hg => hb7.block g (ents_lt HO1.out hg))
      have HO2 := Lib.hid ho2
      clear ho2 hb7 HT6 HO1
      go_wp2_with (go_at_call 12; refine (mine_len HT7.out.snd).mono ?_; rintro e w' ⟨rfl, rfl⟩)
      go_loopw [24] (fun i wr' => ∃ q : Nat, q ≤ lh.length ∧ i = .int .i64 q ∧ IsLat wr' lb N T ∧ Below w.heap.size w wr' ∧ Ents wr' wr.heap.size (.slice A1 lh.length c1) lh ∧ Ents wr' w6.heap.size (.slice A2 lh.length c2) lh) (fun i _ => lh.length - (intOf i).toNat)
      case atStart => exact ⟨0, Nat.zero_le _, rfl, HT7.out.lat, HT7.out.old, HO1'.out, HO2.out⟩
      case round =>
        obtain ⟨q, hq, rfl, hI, hBw, hp, hp2⟩ := hrel
        clear HT7 HO1' HO2
        rename_i wq
        by_cases hql : q < lh.length
        · obtain ⟨A, c, eA, hmx, hr⟩ := ents_shape hp
          injection eA with e1 e2 e3
          subst e1 e3
          clear e2
          obtain ⟨g1, rfl, _, hra⟩ := hr q hql
          obtain ⟨A, c, eA, _, hr2⟩ := ents_shape hp2
          injection eA with e1 e2 e3
          subst e1 e3
          clear e2
          obtain ⟨g2, rfl, _, hra2⟩ := hr2 q hql
          have hmay := S3.out lh[q] (List.getElem_mem hql)
          have HI := Lib.hid (fun nq => hI.drewN nq)
          have HBW := Lib.hid hBw
          have HP := Lib.hid hp
          have HP2 := Lib.hid hp2
          clear hr hr2 hI hBw hp hp2
          generalize lh[q] = y at hra hra2 hmay
          obtain ⟨yb, yf, yt, ys⟩ := y
          have HC1 := Lib.hid (show ∀ W : World, IsLat W lb N T → Calls Try.prog 24 #[.pointer (some ⟨lb, 0, none⟩), .int .i64 yb, .int .i64 x] W fun e w' => e = .returned (.bool true) ∧ W = w' from fun W hW => hmay.1 ▸ below_any lb N T yb x W hW)
          have HC2 := Lib.hid (show ∀ W : World, IsLat W lb N T → Calls Try.prog 24 #[.pointer (some ⟨lb, 0, none⟩), .int .i64 yf, .int .i64 yt] W fun e w' => e = .returned (.bool false) ∧ W = w' from fun W hW => hmay.2 ▸ below_any lb N T yf yt W hW)
          have k0 := hra 0 _ rfl
          have k1 := hra 1 _ rfl
          have k2 := hra 2 _ rfl
          have k3 := hra 3 _ rfl
          have j0 := hra2 0 _ rfl
          have j1 := hra2 1 _ rfl
          have j2 := hra2 2 _ rfl
          have j3 := hra2 3 _ rfl
          simp only [Nat.add_zero] at k0 j0
          clear hmay hra hra2
          go_wp2
          go_quiet ((first | (go_at_call 24; with_reducible exact still_left (HC1.out _ (HI.out _))) | (go_at_call 24; with_reducible exact still_left (HC2.out _ (HI.out _)))))
          go_wp2
          go_roundw
          case rel => exact ⟨q + 1, by omega, by go_num, HI.out _, below_drew HBW.out _, HP.out, HP2.out⟩
          case measure => simp [intOf]; omega
        · have HBW := Lib.hid hBw
          clear hI hBw hp hp2
          go_wp2
          go_ret
          exact ⟨rfl, HBW.out⟩

theorem u8_bounds {a : Int} (h : (Lit.int .u8 a).wf = true) : 0 ≤ a ∧ a ≤ 255 := by
  simp [Lit.wf] at h
  exact h

theorem apart_all (a0 a1 : Int) (m cap : Nat) (A : Option Addr) (X : Nat → Ent) (x : Int) (w : World) (h0 : (Lit.int .u8 a0).wf = true) (h1 : (Lit.int .u8 a1).wf = true) (hE : EntsIn w w.heap.size A m X) (hm : m ≤ 9223372036854775807) :
    Calls Try.prog 6 #[.int .u8 a0, .int .u8 a1, .slice A m cap, .int .i64 x] w fun e w' => e = .returned (.bool true) ∧ Below w.heap.size w w' :=
  apart_any a0 a1 m cap A X x w (u8_bounds h0).1 (u8_bounds h0).2 (u8_bounds h1).1 (u8_bounds h1).2 hE hm
end Go.Proofs.Ytjfonbkeamhnmaa
