/- Layer 5: Byte, End, Waits: anew contract each. -/
import Derived.Test.YtbnclfelkdbbcaaDoorDcB
import Derived.Test.YtbnclfelkdbbcaaDoorDcShelf
namespace Go.Proofs.YtbnclfelkdbbcaaDoor
open Go.RowKit Go.Lib Dec

theorem get_bt (l : List UInt8) (i : Nat) : ((⟨l.toArray⟩ : ByteArray).get! i).toNat = bt l i := by
  show (l.toArray[i]!).toNat = _
  unfold bt
  by_cases h : i < l.length
  · simp [h, List.getD]
  · simp [h, List.getD]
    rfl

theorem decodeGo_dec {l : List UInt8} (h : 1 ≤ l.length) : decodeGo ⟨l.toArray⟩ = dec l := by
  have hs : (⟨l.toArray⟩ : ByteArray).size = l.length := by simp [ByteArray.size]
  unfold decodeGo
  rw [if_neg (by omega), decode_at, get_bt, get_bt, get_bt, get_bt, hs]
  rfl

theorem dec_is (a : Nat) (l : List UInt8) (h1 : 1 ≤ l.length) (h4 : l.length ≤ 4) : DecIs a l (dec l).1 (dec l).2 := by
  intro w hT hb
  have hs : (⟨l.toArray⟩ : ByteArray).size = l.length := by simp [ByteArray.size]
  have := Any7.utf8_DecodeRune Tryd.decLays ⟨l.toArray⟩ a 0 4 w hT (fun j hj => by
    rw [get_bt, Nat.zero_add]
    exact (cell_of hb j).trans (cells_at h4 j (by omega)))
  rw [decodeGo_dec h1, hs] at this
  exact this

theorem post_of {w : World} {a : Nat} {t : List Nat × List UInt8} {e : Ending} {w' : World} (h : BytePost w a t e w') : Post w a (t.1.getD 0 0) (t.1.getD 1 0) t.1.length t.2 e w' := h

/-- A byte comes where nothing is kept. -/
theorem byte_one (a : Nat) (b : UInt8) : ByteIs a [] b ((anew b).1.getD 0 0) ((anew b).1.getD 1 0) (anew b).1.length (anew b).2 := by
  intro w hT h
  cases hf : fullB [b]
  · have e : anew b = ([], [b]) := by simp [anew, hf]
    rw [e]
    exact byte_keep a [] b w hT h hf
  · have e : anew b = ([(dec [b]).1], []) := by simp [anew, hf]
    rw [e]
    have hd := dec_is a [b] (by simp) (by simp)
    rw [dec_one b] at hd
    exact byte_whole a [] b w hT h hf _ hd

/-- A byte comes. -/
theorem byte_any (a : Nat) (k : List UInt8) (b : UInt8) (w : World) (hT : Tabs w) (h : IsDec w a k) :
    Calls Tryd.prog 12 #[.pointer (some ⟨a, 0, none⟩), .int .u8 b.toNat] w (BytePost w a (comes k b)) := by
  have hn := full_length h.ok
  have hd := dec_is a (k ++ [b]) (by simp) (by simp; omega)
  cases hf : fullB (k ++ [b])
  · have e : comes k b = ([], k ++ [b]) := by simp [comes, hf]
    rw [e]
    exact byte_keep a k b w hT h hf
  · by_cases hl : (dec (k ++ [b])).2 = (k ++ [b]).length
    · have e : comes k b = ([(dec (k ++ [b])).1], []) := by
        unfold comes
        rw [if_neg (by simp [hf]), if_pos hl]
      rw [e]
      rw [hl] at hd
      exact byte_whole a k b w hT h hf _ hd
    · have e : comes k b = (65533 :: (anew b).1, (anew b).2) := by
        unfold comes
        rw [if_neg (by simp [hf]), if_neg hl]
      rw [e]
      have h1 : (anew b).1.length ≤ 1 := by have := anew_count b; omega
      refine (byte_mark a k b w hT h hf _ _ hd hl _ _ _ _ h1 (byte_one a b)).mono ?_
      rintro e w' ⟨h1, h2, h3⟩
      exact ⟨h1.trans (by rw [Nat.add_comm 1]; rfl), h2, h3⟩

theorem nil_byte (x : Int) (w : World) : Calls Tryd.prog 12 #[.pointer none, .int .u8 x] w fun e w' => e = .returned (.tuple #[.agg #[.int .i32 0, .int .i32 0], .int .i64 0]) ∧ Below w.heap.size w w' := by
  go_enter Tryd.func12, Tryd.ntmps12
  go_wp2
  refine bodyPost_ret (v := .tuple #[.agg #[.int .i32 0, .int .i32 0], .int .i64 0]) (by simp [results, Tryd.results12, go_sem]) rfl ⟨rfl, ?_⟩
  exact (Below.refl _ _).alloc (Nat.le_refl _) _

theorem nil_waits (w : World) : Calls Tryd.prog 14 #[.pointer none] w fun e w' => e = .returned (.int .i64 0) ∧ w = w' := by
  go_enter Tryd.func14, Tryd.ntmps14
  go_wp2
  go_ret
  exact ⟨rfl, rfl⟩

theorem waits_any (a : Nat) (k : List UInt8) (w : World) (h : IsDec w a k) : Calls Tryd.prog 14 #[.pointer (some ⟨a, 0, none⟩)] w fun e w' => e = .returned (.int .i64 k.length) ∧ w = w' := by
  have c4 : w.cell? ⟨a, 4, none⟩ = some (.int .i64 k.length) := by rw [cell_of h.blk]; rfl
  clear h
  go_enter Tryd.func14, Tryd.ntmps14
  go_wp2
  go_ret
  exact ⟨rfl, rfl⟩

theorem nil_end (w : World) : Calls Tryd.prog 15 #[.pointer none] w fun e w' => e = .returned (.tuple #[.int .i32 0, .bool false]) ∧ w = w' := by
  go_enter Tryd.func15, Tryd.ntmps15
  go_wp2_with fail
  refine (nil_waits w).mono ?_
  rintro e w' ⟨rfl, rfl⟩
  go_wp2
  go_ret2
  exact ⟨rfl, rfl⟩

theorem end_none (a : Nat) (w : World) (h : IsDec w a []) : Calls Tryd.prog 15 #[.pointer (some ⟨a, 0, none⟩)] w fun e w' => e = .returned (.tuple #[.int .i32 0, .bool false]) ∧ w = w' := by
  have H := Lib.hid (waits_any a [] w h)
  clear h
  go_enter Tryd.func15, Tryd.ntmps15
  go_wp2_with fail
  refine H.out.mono ?_
  rintro e w' ⟨rfl, rfl⟩
  go_wp2
  go_ret2
  exact ⟨rfl, rfl⟩

theorem end_some (a : Nat) (k : List UInt8) (w : World) (h : IsDec w a k) (hk : k ≠ []) : Calls Tryd.prog 15 #[.pointer (some ⟨a, 0, none⟩)] w fun e w' => e = .returned (.tuple #[.int .i32 65533, .bool true]) ∧ IsDec w' a [] ∧ Stirs a w w' := by
  have H := Lib.hid (waits_any a k w h)
  have hl : decide ((k.length : Int) = 0) = false := by simpa using hk
  have hq : ((k.length : Int) == 0) = false := by simpa using hk
  have wa := h.blk
  have ca0 : w.cell? ⟨a, 0, none⟩ = some (.int .u8 (bt k 0)) := by rw [cell_of wa]; rfl
  have ca1 : w.cell? ⟨a, 1, none⟩ = some (.int .u8 (bt k 1)) := by rw [cell_of wa]; rfl
  have ca2 : w.cell? ⟨a, 2, none⟩ = some (.int .u8 (bt k 2)) := by rw [cell_of wa]; rfl
  have ca3 : w.cell? ⟨a, 3, none⟩ = some (.int .u8 (bt k 3)) := by rw [cell_of wa]; rfl
  have ca4 : w.cell? ⟨a, 4, none⟩ = some (.int .i64 (k.length : Int)) := by rw [cell_of wa]; rfl
  have fa0 := free_of wa 0
  have fa1 := free_of wa 1
  have fa2 := free_of wa 2
  have fa3 := free_of wa 3
  have fa4 := free_of wa 4
  have WA := Lib.hid wa
  have kb := build_dec
  clear h wa hk
  go_enter Tryd.func15, Tryd.ntmps15
  go_wp2_with fail
  refine H.out.mono ?_
  rintro e w' ⟨rfl, rfl⟩
  go_wp2
  go_ret2
  refine ⟨rfl, ⟨?_, rfl⟩, (((((Stirs.refl a w).set 0 _).set 1 _).set 2 _).set 3 _).set 4 _⟩
  have q0 := heap_setCell_same w a 0 _ _ (.int .u8 0) WA.out
  have q1 := heap_setCell_same _ a 1 _ _ (.int .u8 0) q0
  have q2 := heap_setCell_same _ a 2 _ _ (.int .u8 0) q1
  have q3 := heap_setCell_same _ a 3 _ _ (.int .u8 0) q2
  have q4 := heap_setCell_same _ a 4 _ _ (.int .i64 0) q3
  exact q4

end Go.Proofs.YtbnclfelkdbbcaaDoor
