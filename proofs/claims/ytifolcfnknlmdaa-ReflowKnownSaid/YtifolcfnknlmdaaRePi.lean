/- Layer 15: the program's Paragraphs, Text. -/
import Derived.Test.YtifolcfnknlmdaaRePh
set_option linter.unusedVariables false
namespace Go.Proofs.Ytifolcfnknlmdaa.Re
open Go.RowKit Go.Proofs.Ytifolcfnknlmdaa.Rw

theorem PState.tab {B : Nat} {V : World} {v vf : Value} {us : List Value} {ps : List (List Ce)} {fs : List Nat} (h : PState B V v vf us ps fs) : TabR (fun b => B ≤ b) V v ps := by
  have hul : (rowsOf us).length = ps.length := by rw [rowsOf, List.length_map, h.len]
  obtain ⟨A, c, rfl⟩ := ownG_slice h.out
  refine ⟨A, c, by rw [hul], fun h0 => ?_⟩
  obtain ⟨g, e, hb, hl, _⟩ := ownG_at h.out (k := 0) (by rw [hul]; exact h0)
  refine ⟨g, 0, e, hb, hl, fun k hk => ⟨us.getD k nilS, ?_, own_lies (h.rows k hk), fun b e2 _ => own_ge (h.rows k hk) b e2⟩⟩
  obtain ⟨g', e', _, _, h3⟩ := ownG_at h.out (k := k) (by rw [hul]; exact hk)
  rw [e] at e'
  cases e'
  have h4 := h3 0 (by decide)
  have hku : k < us.length := by rw [h.len]; exact hk
  have h5 : (rowsOf us).getD k [] = [us.getD k nilS] := by simp [rowsOf, List.getD_eq_getElem?_getD, hku]
  rw [h5] at h4
  simpa using h4
def parG (g : List LnC) : List Ce := trim blC (allC g)
theorem map_take (gs : List (List LnC)) (k : Nat) (hk : k < gs.length) : (gs.take (k + 1)).map parG = (gs.take k).map parG ++ [parG (gs.getD k [])] := by
  rw [List.take_add_one, List.map_append, List.getD_eq_getElem?_getD, List.getElem?_eq_getElem hk]
  simp
set_option maxRecDepth 100000 in
set_option maxHeartbeats 8000000 in
theorem paras_prog {F : Nat → Prop} {v : Value} {l : List LnC} {w : World} (h : LinesAt F w v l) (hl : l.length ≤ 100000) (hs : sumV l ≤ 100000) : Calls Try.prog 18 #[v] w fun e w' => ∃ u, e = .returned u ∧ TabR (fun b => w.heap.size ≤ b) w' u (paras blC l) ∧ Below w.heap.size w w' := by
  have KG := Lib.hid (groups_any h hl)
  have HH := Lib.hid (And.intro hl hs)
  clear h hl hs
  go_enter Try.func18, Try.ntmps18
  go_wp2_with fail
  refine (show Calls _ _ _ _ _ from KG.out).mono ?_
  rintro e w1 hg0
  obtain ⟨A, n, c, us, rfl, hg⟩ := GPost.tab hg0
  have HG := Lib.hid hg
  have hn5 : n ≤ 100000 := by rw [hg.n]; exact Nat.le_trans (groups_count l) HH.out.1
  have H0 : Hid (PState w1.heap.size w1 (.slice none 0 0) (.slice none 0 0) [] (((groups l).take 0).map parG) [] ∧ Below w1.heap.size w1 w1) := Lib.hid ⟨PState.none _ _, Below.refl _ _⟩
  clear hg hg0 KG
  go_wp2
  go_loopw [3, 9] (fun vl iv wr => ∃ (k : Nat) (rs : List Value) (wz : World) (vlz : Value), wz = wr ∧ vlz = vl ∧ k ≤ n ∧ iv = .int .i64 (k : Int) ∧ Hid (PState w1.heap.size wz vlz (.slice none 0 0) rs (((groups l).take k).map parG) [] ∧ Below w1.heap.size w1 wz)) (fun _ iv _ => n - (RowKit.intOf iv).toNat)
  case atStart => exact ⟨0, [], _, _, rfl, rfl, Nat.zero_le _, rfl, H0⟩
  case round =>
    obtain ⟨k, rs, wr, vl, rfl, rfl, hk, rfl, H⟩ := hrel
    by_cases hlt : k < n
    · have glt : decide ((k : Int) < (n : Int)) = true := by simp; omega
      have glt' : decide (k < n) = true := by simp; omega
      obtain ⟨g, A2, n2, c2, rfl, hgl, q0, lg⟩ := HG.out.at_ hlt
      have i1 := idx_group g 0 n c k hlt
      rw [Nat.zero_add] at i1
      have d0 := (H.out.2.cell (p := ⟨g, k, none⟩) hgl).trans q0
      have hsm := group_small l k (by rw [← HG.out.n]; exact hlt)
      have KC := Lib.hid (cells_any ((lg.below HG.out.bel).below H.out.2) (by have := hsm.2.1; have := HH.out.1; omega) (by have := hsm.1; have := HH.out.2; omega))
      have HLg : Hid (((groups l).take (k + 1)).map parG = ((groups l).take k).map parG ++ [trim blC (allC ((groups l).getD k []))]) := Lib.hid (map_take (groups l) k (by rw [← HG.out.n]; exact hlt))
      generalize trim blC (allC ((groups l).getD k [])) = P at *
      clear hgl q0 lg hsm
      go_wp2_with fail
      refine (show Calls _ _ _ _ _ from KC.out).mono ?_
      rintro e w2 ⟨u2, rfl, ho2, b2⟩
      obtain ⟨A3, c3, rfl, -⟩ := id (own_lies ho2)
      obtain ⟨N3, hN3⟩ : ∃ N3, N3 = P.length := ⟨_, rfl⟩
      rw [← hN3] at ho2 ⊢
      have hal : Below w2.heap.size w2 (w2.alloc (.cells #[.slice A3 N3 c3] 28)) := (Below.refl _ _).alloc (Nat.le_refl _) _
      have hb2 : Below w1.heap.size w1 w2 := H.out.2.trans (b2.mono H.out.2.size)
      have HP5 := Lib.hid ((H.out.1.below b2).below hal)
      have HB5 := Lib.hid (hb2.trans (hal.mono hb2.size))
      have H5 := Lib.hid (one_el (T := 28) w2 [.slice A3 N3 c3])
      have HC5 := Lib.hid (own_less (B := w1.heap.size) (own_below ho2 (hal.mono (Nat.le_refl _)) (Nat.le_refl _)) H.out.2.size)
      have hls5 : (rowsOf rs).length ≤ 1000000 := by
        have h1 := H.out.1.len
        rw [List.length_map, List.length_take] at h1
        rw [rowsOf, List.length_map]
        omega
      clear ho2 b2 KC hal hb2 hN3
      go_wp2_with (at_builtin; refine append_el elRow _ rfl (.tmp 13) (.tmp 16) rfl w1.heap.size _ (rowsOf rs) [.slice A3 N3 c3] ⟨w2.heap.size, 0, none⟩ rfl HP5.out.out rfl H5.out rfl (by intro u hu; rw [List.mem_singleton] at hu; subst hu; rfl) hls5 HB5.out.size ?_)
      intro g6 c6 w6 o6 gr6
      have H6 : Hid (PState w1.heap.size w6 (.slice (some ⟨g6, 0, none⟩) ((rowsOf rs).length + 1) c6) (.slice none 0 0) (rs ++ [.slice A3 N3 c3]) (((groups l).take (k + 1)).map parG) [] ∧ Below w1.heap.size w1 w6) := Lib.hid ⟨by
        rw [HLg.out]
        exact HP5.out.more HC5.out (by rw [rows_snoc]; exact o6) gr6, grownG HB5.out gr6 HP5.out.out HB5.out.size (Nat.le_refl _)⟩
      generalize Value.slice (some ⟨g6, 0, none⟩) ((rowsOf rs).length + 1) c6 = vo6 at *
      clear o6 gr6 HP5 HB5 H5 HC5 hls5 H HLg
      go_wp2
      go_roundw
      case rel => exact ⟨k + 1, _, _, _, rfl, rfl, hlt, by go_num, H6⟩
      case measure => simp [RowKit.intOf]; omega
    · have hkn : k = n := by omega
      have glt : decide ((k : Int) < (n : Int)) = false := by simp; omega
      have glt' : decide (k < n) = false := by simp; omega
      have HF : Hid (TabR (fun b => w.heap.size ≤ b) wr vl (paras blC l) ∧ Below w.heap.size w wr) := Lib.hid (by
        have h1 := H.out.1.tab
        rw [hkn, HG.out.n, List.take_length] at h1
        rw [paras_of]
        obtain ⟨A4, c4, e4, h4⟩ := h1
        have hw1 : Below w.heap.size w w1 := HG.out.bel
        refine ⟨⟨A4, c4, e4, fun h0 => ?_⟩, hw1.trans (H.out.2.mono hw1.size)⟩
        obtain ⟨b, o, e5, hb, hlt5, hr⟩ := h4 h0
        exact ⟨b, o, e5, Nat.le_trans hw1.size hb, hlt5, fun j hj => by obtain ⟨u, hu, hru⟩ := hr j hj; exact ⟨u, hu, hru.more fun b hb => Nat.le_trans hw1.size hb⟩⟩)
      clear hkn H
      go_wp2
      go_ret
      exact ⟨_, rfl, HF.out.1, HF.out.2⟩
theorem elStr : ElT 45 9 (.string ByteArray.empty) 1 16 := ⟨by kernel_rfl, Try.underlying45, rfl, by decide, by decide⟩
def strsOf (ts : List ByteArray) : List (List Value) := ts.map fun s => [.string s]
theorem strs_snoc (ts : List ByteArray) (s : ByteArray) : strsOf (ts ++ [s]) = strsOf ts ++ [[.string s]] := by simp [strsOf]
theorem strs_at {B : Nat} {w : World} {v : Value} {ts : List ByteArray} (h : OwnG 9 1 w B v (strsOf ts)) : TextsAt w v ts := by
  have hul : (strsOf ts).length = ts.length := by rw [strsOf, List.length_map]
  obtain ⟨A, c, rfl⟩ := ownG_slice h
  refine ⟨A, c, by rw [hul], fun h0 => ?_⟩
  obtain ⟨g, e, hb, hl, _⟩ := ownG_at h (k := 0) (by rw [hul]; exact h0)
  refine ⟨g, 0, e, hl, fun k hk => ?_⟩
  obtain ⟨g', e', _, _, h3⟩ := ownG_at h (k := k) (by rw [hul]; exact hk)
  rw [e] at e'
  cases e'
  have h4 := h3 0 (by decide)
  have h5 : (strsOf ts).getD k [] = [.string (ts.getD k ByteArray.empty)] := by simp [strsOf, List.getD_eq_getElem?_getD, hk]
  rw [h5] at h4
  simpa using h4
theorem smap_take (ps : List (List Ce)) (k : Nat) (hk : k < ps.length) : (ps.take (k + 1)).map textV = (ps.take k).map textV ++ [textV (ps.getD k [])] := by
  rw [List.take_add_one, List.map_append, List.getD_eq_getElem?_getD, List.getElem?_eq_getElem hk]
  simp
set_option maxRecDepth 100000 in
set_option maxHeartbeats 8000000 in
theorem texts_prog {F : Nat → Prop} {v : Value} {l : List LnC} {w : World} (h : LinesAt F w v l) (hl : l.length ≤ 100000) (hs : sumV l ≤ 100000) (hr : ∀ p ∈ paras blC l, runesB p = true) : Calls Try.prog 15 #[v] w fun e w' => ∃ u, e = .returned u ∧ TextsAt w' u ((paras blC l).map textV) ∧ Below w.heap.size w w' := by
  have KG := Lib.hid (paras_prog h hl hs)
  have hps : ∀ p ∈ paras blC l, p.length ≤ 100000 := fun p hp => by have h1 := para_small l [] p hp; rw [List.length_nil] at h1; omega
  have hpn : (paras blC l).length ≤ 100000 := Nat.le_trans (paras_count l []) hl
  obtain ⟨ps, hpe⟩ : ∃ ps, ps = paras blC l := ⟨_, rfl⟩
  rw [← hpe] at hps hpn hr KG ⊢
  have HP := Lib.hid (And.intro hps hr)
  obtain ⟨n, hn⟩ : ∃ n, n = ps.length := ⟨_, rfl⟩
  rw [← hn] at hpn
  have HN := Lib.hid hn
  clear h hl hs hps hr hpe hn
  go_enter Try.func15, Try.ntmps15
  go_wp2_with fail
  refine (show Calls _ _ _ _ _ from KG.out).mono ?_
  rintro e w1 ⟨t1, rfl, ht, b1⟩
  have HB1 := Lib.hid b1
  obtain ⟨A, c, rfl⟩ : ∃ A c, t1 = .slice A n c := by obtain ⟨A, c, e, -⟩ := ht; exact ⟨A, c, by rw [HN.out]; exact e⟩
  have HT := Lib.hid ht
  have H0 : Hid (OwnG 9 1 w1 w1.heap.size (.slice none 0 0) (strsOf ((ps.take 0).map textV)) ∧ Below w1.heap.size w1 w1) := Lib.hid ⟨ownG_none _ _, Below.refl _ _⟩
  clear ht b1 KG
  go_wp2
  go_loopw [3, 9] (fun vl iv wr => ∃ (k : Nat) (wz : World) (vlz : Value), wz = wr ∧ vlz = vl ∧ k ≤ n ∧ iv = .int .i64 (k : Int) ∧ Hid (OwnG 9 1 wz w1.heap.size vlz (strsOf ((ps.take k).map textV)) ∧ Below w1.heap.size w1 wz)) (fun _ iv _ => n - (RowKit.intOf iv).toNat)
  case atStart => exact ⟨0, _, _, rfl, rfl, Nat.zero_le _, rfl, H0⟩
  case round =>
    obtain ⟨k, wr, vl, rfl, rfl, hk, rfl, H⟩ := hrel
    by_cases hlt : k < n
    · have glt : decide ((k : Int) < (n : Int)) = true := by simp; omega
      have glt' : decide (k < n) = true := by simp; omega
      obtain ⟨g, o, u, rfl, hgl, q0, ru⟩ := HT.out.at_ (k := k) (by rw [← HN.out]; exact hlt)
      have i1 := idx_rows g o n c k hlt
      have d0 := (H.out.2.cell (p := ⟨g, o + k, none⟩) hgl).trans q0
      have hm : ps.getD k [] ∈ ps := by
        rw [List.getD_eq_getElem?_getD, List.getElem?_eq_getElem (by rw [← HN.out]; exact hlt)]
        exact List.getElem_mem _
      have KC := Lib.hid (ptext_any u _ wr (ru.1.below H.out.2) (HP.out.1 _ hm) (HP.out.2 _ hm))
      have HLg : Hid ((ps.take (k + 1)).map textV = (ps.take k).map textV ++ [textV (ps.getD k [])]) := Lib.hid (smap_take ps k (by rw [← HN.out]; exact hlt))
      obtain ⟨A5, c5, rfl, -⟩ := id ru.1
      generalize (ps.getD k []).length = N5 at *
      generalize textV (ps.getD k []) = P at *
      clear hgl q0 ru hm
      go_wp2_with fail
      refine (show Calls _ _ _ _ _ from KC.out).mono ?_
      rintro e w2 ⟨rfl, b2⟩
      have hal : Below w2.heap.size w2 (w2.alloc (.cells #[.string P] 9)) := (Below.refl _ _).alloc (Nat.le_refl _) _
      have hb2 : Below w1.heap.size w1 w2 := H.out.2.trans (b2.mono H.out.2.size)
      have HP5 := Lib.hid (ownG_below (ownG_below H.out.1 b2) hal)
      have HB5 := Lib.hid (hb2.trans (hal.mono hb2.size))
      have H5 := Lib.hid (one_el (T := 9) w2 [.string P])
      have hls5 : (strsOf ((ps.take k).map textV)).length ≤ 1000000 := by
        rw [strsOf, List.length_map, List.length_map, List.length_take]
        omega
      clear b2 KC hal hb2
      generalize hts : strsOf ((ps.take k).map textV) = ts at *
      go_wp2_with (at_builtin; refine append_el elStr _ rfl (.tmp 13) (.tmp 16) rfl w1.heap.size _ ts [.string P] ⟨w2.heap.size, 0, none⟩ rfl HP5.out rfl H5.out rfl (by intro u hu; rw [List.mem_singleton] at hu; subst hu; rfl) hls5 HB5.out.size ?_)
      intro g6 c6 w6 o6 gr6
      have H6 : Hid (OwnG 9 1 w6 w1.heap.size (.slice (some ⟨g6, 0, none⟩) (ts.length + 1) c6) (strsOf ((ps.take (k + 1)).map textV)) ∧ Below w1.heap.size w1 w6) := Lib.hid ⟨by
        rw [HLg.out, strs_snoc, hts]
        exact o6, grownG HB5.out gr6 HP5.out HB5.out.size (Nat.le_refl _)⟩
      generalize Value.slice (some ⟨g6, 0, none⟩) (ts.length + 1) c6 = vo6 at *
      clear o6 gr6 HP5 HB5 H5 hls5 H HLg hts
      go_wp2
      go_roundw
      case rel => exact ⟨k + 1, _, _, rfl, rfl, hlt, by go_num, H6⟩
      case measure => simp [RowKit.intOf]; omega
    · have hkn : k = n := by omega
      have glt : decide ((k : Int) < (n : Int)) = false := by simp; omega
      have glt' : decide (k < n) = false := by simp; omega
      have HF : Hid (TextsAt wr vl (ps.map textV) ∧ Below w.heap.size w wr) := Lib.hid (by
        have h1 := strs_at H.out.1
        rw [hkn, HN.out, List.take_length] at h1
        exact ⟨h1, HB1.out.trans (H.out.2.mono HB1.out.size)⟩)
      clear hkn H
      go_wp2
      go_ret
      exact ⟨_, rfl, HF.out.1, HF.out.2⟩
end Go.Proofs.Ytifolcfnknlmdaa.Re
