/- Layer 5: Byte, End, Waits: anew contract each. -/
import Derived.Test.YtfekjlajagoooaaDoorF5DcB
import Derived.Test.YtfekjlajagoooaaDoorE5DcShelf
namespace Go.Proofs.YtfekjlajagoooaaDoor.D5
open Go.RowKit Go.Lib Dec

theorem get_bt (l : List UInt8) (i : Nat) : ((⟨l.toArray⟩ : ByteArray).get! i).toNat = bt l i := by
  show (l.toArray[i]!).toNat = _
  unfold bt
  by_cases h : i < l.length
  · simp [h, List.getD]
  · simp [h, List.getD]
    rfl

theorem decodeGo_dec {l : List UInt8} (h : 1 ≤ l.length) : decodeGo ⟨l.toArray⟩ = dec l := by
  have hs : (⟨l.toArray⟩ : ByteArray).size = l.length := by simp [ByteArray.size]
  unfold decodeGo
  rw [if_neg (by omega), decode_at, get_bt, get_bt, get_bt, get_bt, hs]
  rfl

theorem dec_is (a z : Nat) (l : List UInt8) (h1 : 1 ≤ l.length) (h4 : l.length ≤ 4) : DecIs a z l (dec l).1 (dec l).2 := by
  intro w hT hb
  have hs : (⟨l.toArray⟩ : ByteArray).size = l.length := by simp [ByteArray.size]
  have := Any7.utf8_DecodeRune Tryd.decLays ⟨l.toArray⟩ a z 4 w hT (fun j hj => by
    rw [get_bt]
    exact (dc hb j (by omega)).trans (cells_at h4 j (by omega)))
  rw [decodeGo_dec h1, hs] at this
  exact this

theorem post_of {w : World} {a z : Nat} {t : List Nat × List UInt8} {e : Ending} {w' : World} (h : BytePost w a z t e w') : Post w a z (t.1.getD 0 0) (t.1.getD 1 0) t.1.length t.2 e w' := h

/-- A byte comes where nothing is kept. -/
theorem byte_one (a z : Nat) (b : UInt8) : ByteIs a z [] b ((anew b).1.getD 0 0) ((anew b).1.getD 1 0) (anew b).1.length (anew b).2 := by
  intro w hT h
  cases hf : fullB [b]
  · have e : anew b = ([], [b]) := by simp [anew, hf]
    rw [e]
    exact byte_keep a z [] b w hT h hf
  · have e : anew b = ([(dec [b]).1], []) := by simp [anew, hf]
    rw [e]
    have hd := dec_is a z [b] (by simp) (by simp)
    rw [dec_one b] at hd
    exact byte_whole a z [] b w hT h hf _ hd

/-- A byte comes. -/
theorem byte_any (a z : Nat) (k : List UInt8) (b : UInt8) (w : World) (hT : Tabs w) (h : IsDec w a z k) :
    Calls Tryd.prog 75 #[.pointer (some ⟨a, z, none⟩), .int .u8 b.toNat] w (BytePost w a z (comes k b)) := by
  have hn := full_length h.ok
  have hd := dec_is a z (k ++ [b]) (by simp) (by simp; omega)
  cases hf : fullB (k ++ [b])
  · have e : comes k b = ([], k ++ [b]) := by simp [comes, hf]
    rw [e]
    exact byte_keep a z k b w hT h hf
  · by_cases hl : (dec (k ++ [b])).2 = (k ++ [b]).length
    · have e : comes k b = ([(dec (k ++ [b])).1], []) := by
        unfold comes
        rw [if_neg (by simp [hf]), if_pos hl]
      rw [e]
      rw [hl] at hd
      exact byte_whole a z k b w hT h hf _ hd
    · have e : comes k b = (65533 :: (anew b).1, (anew b).2) := by
        unfold comes
        rw [if_neg (by simp [hf]), if_neg hl]
      rw [e]
      have h1 : (anew b).1.length ≤ 1 := by have := anew_count b; omega
      refine (byte_mark a z k b w hT h hf _ _ hd hl _ _ _ _ h1 (byte_one a z b)).mono ?_
      rintro e w' ⟨h1, h2, h3⟩
      exact ⟨h1.trans (by rw [Nat.add_comm 1]; rfl), h2, h3⟩

theorem nil_byte (x : Int) (w : World) : Calls Tryd.prog 75 #[.pointer none, .int .u8 x] w fun e w' => e = .returned (.tuple #[.agg #[.int .i32 0, .int .i32 0], .int .i64 0]) ∧ Below w.heap.size w w' := by
  go_enter Tryd.func75, Tryd.ntmps75
  go_wp2
  refine bodyPost_ret (v := .tuple #[.agg #[.int .i32 0, .int .i32 0], .int .i64 0]) (by simp [results, Tryd.results75, go_sem]) rfl ⟨rfl, ?_⟩
  exact (Below.refl _ _).alloc (Nat.le_refl _) _

theorem nil_waits (w : World) : Calls Tryd.prog 34 #[.pointer none] w fun e w' => e = .returned (.int .i64 0) ∧ w = w' := by
  go_enter Tryd.func34, Tryd.ntmps34
  go_wp2
  go_ret
  exact ⟨rfl, rfl⟩

theorem waits_any (a z : Nat) (k : List UInt8) (w : World) (h : IsDec w a z k) : Calls Tryd.prog 34 #[.pointer (some ⟨a, z, none⟩)] w fun e w' => e = .returned (.int .i64 k.length) ∧ w = w' := by
  have c4 : w.cell? ⟨a, z + 4, none⟩ = some (.int .i64 k.length) := by rw [dc h.blk 4 (by omega)]; rfl
  clear h
  go_enter Tryd.func34, Tryd.ntmps34
  go_wp2
  go_ret
  exact ⟨rfl, rfl⟩

theorem nil_end (w : World) : Calls Tryd.prog 57 #[.pointer none] w fun e w' => e = .returned (.tuple #[.int .i32 0, .bool false]) ∧ w = w' := by
  go_enter Tryd.func57, Tryd.ntmps57
  go_wp2_with fail
  refine (nil_waits w).mono ?_
  rintro e w' ⟨rfl, rfl⟩
  go_wp2
  go_ret2
  exact ⟨rfl, rfl⟩

theorem end_none (a z : Nat) (w : World) (h : IsDec w a z []) : Calls Tryd.prog 57 #[.pointer (some ⟨a, z, none⟩)] w fun e w' => e = .returned (.tuple #[.int .i32 0, .bool false]) ∧ w = w' := by
  have H := Lib.hid (waits_any a z [] w h)
  clear h
  go_enter Tryd.func57, Tryd.ntmps57
  go_wp2_with fail
  refine H.out.mono ?_
  rintro e w' ⟨rfl, rfl⟩
  go_wp2
  go_ret2
  exact ⟨rfl, rfl⟩

theorem end_some (a z : Nat) (k : List UInt8) (w : World) (h : IsDec w a z k) (hk : k ≠ []) : Calls Tryd.prog 57 #[.pointer (some ⟨a, z, none⟩)] w fun e w' => e = .returned (.tuple #[.int .i32 65533, .bool true]) ∧ IsDec w' a z [] ∧ Stirs a z 5 w w' := by
  have H := Lib.hid (waits_any a z k w h)
  have hl : decide ((k.length : Int) = 0) = false := by simpa using hk
  have hq : ((k.length : Int) == 0) = false := by simpa using hk
  have wa := h.blk
  have HNE := Lib.hid h.ne
  have ca0 : w.cell? ⟨a, z, none⟩ = some (.int .u8 (bt k 0)) := by rw [dc0 wa]; rfl
  have ca1 : w.cell? ⟨a, z + 1, none⟩ = some (.int .u8 (bt k 1)) := by rw [dc wa 1 (by omega)]; rfl
  have ca2 : w.cell? ⟨a, z + 2, none⟩ = some (.int .u8 (bt k 2)) := by rw [dc wa 2 (by omega)]; rfl
  have ca3 : w.cell? ⟨a, z + 3, none⟩ = some (.int .u8 (bt k 3)) := by rw [dc wa 3 (by omega)]; rfl
  have ca4 : w.cell? ⟨a, z + 4, none⟩ = some (.int .i64 (k.length : Int)) := by rw [dc wa 4 (by omega)]; rfl
  have fa0 := Part.free wa z
  have fa1 := Part.free wa (z + 1)
  have fa2 := Part.free wa (z + 2)
  have fa3 := Part.free wa (z + 3)
  have fa4 := Part.free wa (z + 4)
  have WA := Lib.hid wa
  have kb := build_dec
  clear h wa hk
  go_enter Tryd.func57, Tryd.ntmps57
  go_wp2_with fail
  refine H.out.mono ?_
  rintro e w' ⟨rfl, rfl⟩
  go_wp2
  go_ret2
  refine ⟨rfl, ⟨?_, rfl, HNE.out⟩, (((((Stirs.refl a z 5 w).set z _ (by omega)).set (z + 1) _ (by omega)).set (z + 2) _ (by omega)).set (z + 3) _ (by omega)).set (z + 4) _ (by omega)⟩
  have q0 := set0 WA.out (.int .u8 0) (by simp [cellsK])
  have q1 := Part.set q0 1 (.int .u8 0) (by simp [cellsK])
  have q2 := Part.set q1 2 (.int .u8 0) (by simp [cellsK])
  have q3 := Part.set q2 3 (.int .u8 0) (by simp [cellsK])
  have q4 := Part.set q3 4 (.int .i64 0) (by simp [cellsK])
  exact q4

end Go.Proofs.YtfekjlajagoooaaDoor.D5
