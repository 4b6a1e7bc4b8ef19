/- Layer 8: take, walked. -/
import Derived.Test.YtfekjlajagoooaaDoorEpO
namespace Go.Proofs.YtfekjlajagoooaaDoor
open Go.RowKit Ev

set_option maxHeartbeats 1000000 in
theorem take_law {w : World} {a : Nat} {q : Q} {L : List EV} (h : IsP w a q L) (hx : ∀ x ∈ L, ParOk x.params) (hn : L.length ≤ 90000) : Calls Tryd.prog 13 #[.pointer (some ⟨a, 0, none⟩)] w (TookPost w a q L) := by
  have hla := h.lt
  have HC := Lib.hid (next_any h hx)
  obtain ⟨i0, hi, hz0, hz1, hz2⟩ := info_parts info_pev
  have HI := Lib.hid hi; have HZ0 := Lib.hid hz0; have HZ1 := Lib.hid hz1; have HZ2 := Lib.hid hz2
  have HX := Lib.hid hx
  have HL := Lib.hid hn
  clear h hx hn hi hz0 hz1 hz2
  · go_enter Tryd.func13, Tryd.ntmps13
    go_wp2_with fail
    refine (show Calls _ _ _ _ _ from HC.out).mono ?_
    rintro e w1 hp
    have hsz0 : w.heap.size ≤ w1.heap.size := by
      cases L with
      | nil => exact hp.2.2.size
      | cons x L => obtain ⟨_, _, _, _, _, hs⟩ := hp; exact hs.size
    obtain ⟨E0, ok0, rfl, HS0⟩ : ∃ E0 ok0, e = .returned (.tuple #[E0, ok0]) ∧ Hid ((∃ k r f : Int, ∃ M X A n c, E0 = .agg #[.int .i64 k, .int .i32 r, .int .u8 f, .string M, .slice A n c, .string X]) ∧ ∀ eb, eb = w1.heap.size → TakeAt w a eb (eb + 1) q L (.slice none 0 0) ok0 (w1.alloc (.cells E0.cells 31))) := by
      cases L with
      | nil =>
        obtain ⟨rfl, hI, hs⟩ := hp
        refine ⟨_, _, rfl, Lib.hid ⟨⟨0, 0, 0, ⟨#[]⟩, ⟨#[]⟩, none, 0, 0, rfl⟩, fun eb _ => ?_⟩⟩
        have hb : Below w1.heap.size w1 (w1.alloc (.cells (Value.agg #[.int .i64 0, .int .i32 0, .int .u8 0, .string ⟨#[]⟩, .slice none 0 0, .string ⟨#[]⟩]).cells 31)) := (Below.refl _ _).alloc (Nat.le_refl _) _
        exact .done none 0 0 _ rfl (Told.nil _ _ _) (hI.below hb) (hs.alloc _ hla)
      | cons x L =>
        obtain ⟨A, c, rfl, ht, hI, hs⟩ := hp
        refine ⟨_, _, rfl, Lib.hid ⟨⟨x.kind, x.rune, x.final, strK x.mids, strK x.text, A, x.params.length, c, rfl⟩, fun eb he => ?_⟩⟩
        have hb : Below w1.heap.size w1 (w1.alloc (.cells (Value.agg #[.int .i64 x.kind, .int .i32 x.rune, .int .u8 x.final, .string (strK x.mids), .slice A x.params.length c, .string (strK x.text)]).cells 31)) := (Below.refl _ _).alloc (Nat.le_refl _) _
        exact .more none 0 0 [] L x A c _ rfl rfl (Told.nil _ _ _) (by rw [he]; exact Deep.blk_alloc_new w1 _) (ht.keep (P7.KeepT.of_below hb)) (hI.below hb) (hs.alloc _ hla) (by rw [he]; simp)
    obtain ⟨⟨k, r, f, M, X, A, n, c, rfl⟩, _⟩ := HS0.out
    have HS := Lib.hid (HS0.out.2 w1.heap.size rfl)
    have HW0 : Hid (w.heap.size ≤ w1.heap.size) := Lib.hid hsz0
    clear hp HS0 HC
    go_wp2
    go_loopw [3, 5] (fun v ok wr => Hid (TakeAt w a w1.heap.size (w1.heap.size + 1) q L v ok wr)) (fun v _ _ => L.length - lenOf v)
    case atStart => exact HS
    case round =>
      have hT := hrel.out
      clear hrel HS
      cases hT with
      | more A n c M' R x A1 c1 _ hL hnn ht he hp hI hs hz =>
        obtain ⟨⟨t0, t1, t2, t3, t4, t5⟩, _⟩ := ev_open he
        obtain ⟨ls, hls, hown0⟩ := ht
        have HO : Hid ((wr.alloc (.cells #[.int .i64 x.kind, .int .i32 x.rune, .int .u8 x.final, .string (strK x.mids), .slice A1 x.params.length c1, .string (strK x.text)] 31)).ownsRow (w1.heap.size + 1) 31 6 (.slice A n c) n ls.flatten) := Lib.hid (by
          have := World.ownsRow.alloc hown0 (.cells #[.int .i64 x.kind, .int .i32 x.rune, .int .u8 x.final, .string (strK x.mids), .slice A1 x.params.length c1, .string (strK x.text)] 31)
          rwa [← hnn] at this)
        have hlen : n < L.length := by rw [hL, hnn]; simp
        have HLn := Lib.hid hlen
        have hn1 : n ≤ 90000 := by have := HL.out; omega
        have d1 : decide ((n : Int) < 100000) = true := by simp; omega
        have HK : Hid (∀ (v' : Value) (w2 : World), w2.ownsRow (w1.heap.size + 1) 31 6 v' (n + 1) (ls.flatten ++ [.int .i64 x.kind, .int .i32 x.rune, .int .u8 x.final, .string (strK x.mids), .slice A1 x.params.length c1, .string (strK x.text)]) → (wr.alloc (.cells #[.int .i64 x.kind, .int .i32 x.rune, .int .u8 x.final, .string (strK x.mids), .slice A1 x.params.length c1, .string (strK x.text)] 31)).grownBy w2 (Value.slice A n c).ownBlock →
            ∃ g c', v' = .slice (some ⟨g, 0, none⟩) (n + 1) c' ∧ Told w2 (w1.heap.size + 1) 31 (.slice (some ⟨g, 0, none⟩) (n + 1) c') (M' ++ [x]) ∧ IsP w2 a q R ∧ w2.heap[w1.heap.size]? = some (evO x A1 c1) ∧ Stirs a 0 1183 w w2 ∧ w1.heap.size + 1 ≤ w2.heap.size) := Lib.hid fun v' w2 hown hg => took_snoc hnn hls ⟨ls, hls, hown0⟩ hp hI he (Nat.lt_succ_self _) hown hg hz w hs (by have := HW0.out; omega) hla
        have HLL := Lib.hid hL
        have HNN := Lib.hid hnn
        have HB := Lib.hid hz
        clear hL hnn he hp hI hs hz hls hown0 hlen
        go_wp2_with (at_builtin; refine wpList_append_own _ rfl (.tmp 17) (.tmp 19) 25 rfl (w1.heap.size + 1) 31 i0 zeroEv 6 72 Tryd.underlying25 HI.out HZ0.out HZ1.out HZ2.out rfl (by decide) _ _ _ rfl HO.out ⟨wr.heap.size, 0, none⟩ 1 1 [.int .i64 x.kind, .int .i32 x.rune, .int .u8 x.final, .string (strK x.mids), .slice A1 x.params.length c1, .string (strK x.text)] rfl rfl ?d1 ?d2 ?d3 ?d4 ?d5 ?_)
        case d1 => exact one_cells wr _ _
        case d2 => intro u hu; simp at hu; rcases hu with rfl | rfl | rfl | rfl | rfl | rfl <;> rfl
        case d3 => unfold maxLen; omega
        case d4 => omega
        case d5 => have := HB.out; simp; omega
        intro v' w2 hown hg _
        obtain ⟨g, c', rfl, ht2, hI2, he2, hs2, hz2⟩ := HK.out v' w2 hown hg
        have HNx := Lib.hid (next_any hI2 (fun y hy => HX.out y (by rw [HLL.out]; simp [hy])))
        have HT2 := Lib.hid (And.intro ht2 (And.intro he2 (And.intro hs2 hz2)))
        have HP2 : Hid (∃ C, w2.heap[a]? = some (.cells C 66 (0, 0))) := Lib.hid (by obtain ⟨C, h1, _⟩ := hI2.blk; exact ⟨C, h1⟩)
        clear hown hg ht2 hI2 he2 hs2 hz2 HK HO t0 t1 t2 t3 t4 t5
        cases R with
        | nil =>
          go_wp2_with fail
          refine (show Calls _ _ _ _ _ from HNx.out).mono ?_
          rintro e w3 ⟨rfl, hI3, hs3⟩
          obtain ⟨he3, HW⟩ := took_next HT2.out.1 HP2.out hs3 hI3 HT2.out.2.1 HT2.out.2.2.1 HW0.out hla HT2.out.2.2.2
          obtain ⟨⟨t0, t1, t2, t3, t4, t5⟩, tf⟩ := ev_open he3
          have tf0 := tf 0; have tf1 := tf 1; have tf2 := tf 2; have tf3 := tf 3; have tf4 := tf 4; have tf5 := tf 5
          have HF := HW (.int .i64 0) (.int .i32 0) (.int .u8 0) (.string ⟨#[]⟩) (.slice none 0 0) (.string ⟨#[]⟩)
          clear hI3 hs3 he3 tf HW HNx HT2 HP2
          go_wp2
          go_roundw
          case rel => exact Lib.hid (.done _ _ _ _ (by rw [HLL.out, HNN.out]; simp) (by have h1 := HF.out.1; have h2 := HLL.out; rw [h2]; exact h1) HF.out.2.1 HF.out.2.2.1)
          case measure => simp only [lenOf]; have := HLn.out; omega
        | cons y R =>
          go_wp2_with fail
          refine (show Calls _ _ _ _ _ from HNx.out).mono ?_
          rintro e w3 ⟨A3, c3, rfl, ht3, hI3, hs3⟩
          obtain ⟨he3, HW⟩ := took_next HT2.out.1 HP2.out hs3 hI3 HT2.out.2.1 HT2.out.2.2.1 HW0.out hla HT2.out.2.2.2
          obtain ⟨⟨t0, t1, t2, t3, t4, t5⟩, tf⟩ := ev_open he3
          have tf0 := tf 0; have tf1 := tf 1; have tf2 := tf 2; have tf3 := tf 3; have tf4 := tf 4; have tf5 := tf 5
          have HF := HW (.int .i64 y.kind) (.int .i32 y.rune) (.int .u8 y.final) (.string (strK y.mids)) (.slice A3 y.params.length c3) (.string (strK y.text))
          have HT3 := Lib.hid (HF.out.2.2.2.2.1 _ _ ht3)
          clear hI3 hs3 he3 tf HW HNx HT2 HP2 ht3
          go_wp2
          go_roundw
          case rel => exact Lib.hid (.more _ _ _ (M' ++ [x]) R y A3 c3 _ (by rw [HLL.out]; simp) (by rw [HNN.out]; simp) HF.out.1 HF.out.2.2.2.1 HT3.out HF.out.2.1 HF.out.2.2.1 HF.out.2.2.2.2.2)
          case measure => simp only [lenOf]; have := HLn.out; omega
      | done A n c _ hnn ht hI hs =>
        have HF : Hid (TookPost w a q L (.returned (.slice A n c)) wr) := Lib.hid ⟨A, c, by rw [hnn], (by rw [← hnn]; exact ht.mono (by have := HW0.out; omega)), hI, hs⟩
        clear hnn ht hI hs
        go_wp2
        go_ret
        exact HF.out
end Go.Proofs.YtfekjlajagoooaaDoor
