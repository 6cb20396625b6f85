/- Devices that are none; bytes 0 that are made. No condition. -/
import Derived.Test.YtdhngbfigklaoaaDvJ
import Derived.Laws.MakeOwn
namespace Go.Proofs.Ytdhngbfigklaoaa
open Go.RowKit Go.Shelf

/-- p is no device that New or Copy returned. -/
def NoDev (p : Value) (w : World) : Prop := Calls Try.prog 39 #[p] w fun e w' => e = .returned (.bool false) ∧ w = w'
theorem noDev_nil (w : World) : NoDev (.pointer none) w := dmade_nil w
set_option maxHeartbeats 1000000 in
theorem dcheck_no (p : Value) (q : Int) (w : World) (h : NoDev p w) : Calls Try.prog 42 #[p, .int .i64 q] w fun e w' => e = .returned (.int .i64 1) ∧ w = w' := by
  have H := Lib.hid h
  clear h
  go_enter Try.func42, Try.ntmps42
  go_wp2_with fail
  refine (show Calls _ _ _ _ _ from H.out).mono ?_
  rintro e w1 ⟨rfl, rfl⟩
  go_wp2_with fail
  go_ret
  exact ⟨rfl, rfl⟩
set_option maxHeartbeats 1000000 in
theorem read_no (p : Value) (q : Int) (w : World) (h : NoDev p w) : Calls Try.prog 19 #[p, .int .i64 q] w fun e w' => e = .returned (.tuple #[.string ⟨#[]⟩, .int .i64 1]) ∧ w = w' := by
  have H := Lib.hid (dcheck_no p q w h)
  clear h
  go_enter Try.func19, Try.ntmps19
  go_wp2_with fail
  refine H.out.mono ?_
  rintro e w1 ⟨rfl, rfl⟩
  go_wp2_with fail
  go_ret2
  exact ⟨rfl, rfl⟩
set_option maxHeartbeats 1000000 in
theorem firm_no (p : Value) (q : Int) (w : World) (h : NoDev p w) : Calls Try.prog 37 #[p, .int .i64 q] w fun e w' => e = .returned (.tuple #[.string ⟨#[]⟩, .int .i64 1]) ∧ w = w' := by
  have H := Lib.hid (dcheck_no p q w h)
  clear h
  go_enter Try.func37, Try.ntmps37
  go_wp2_with fail
  refine H.out.mono ?_
  rintro e w1 ⟨rfl, rfl⟩
  go_wp2_with fail
  go_ret2
  exact ⟨rfl, rfl⟩
set_option maxHeartbeats 1000000 in
theorem write_no (p : Value) (q : Int) (s : ByteArray) (w : World) (h : NoDev p w) : Calls Try.prog 47 #[p, .int .i64 q, .string s] w fun e w' => e = .returned (.int .i64 1) ∧ w = w' := by
  have H := Lib.hid (dcheck_no p q w h)
  clear h
  go_enter Try.func47, Try.ntmps47
  go_wp2_with fail
  refine H.out.mono ?_
  rintro e w1 ⟨rfl, rfl⟩
  go_wp2_with fail
  go_ret
  exact ⟨rfl, rfl⟩
set_option maxHeartbeats 1000000 in
theorem flush_no (p : Value) (w : World) (h : NoDev p w) : Calls Try.prog 49 #[p] w fun e w' => e = .returned (.int .i64 0) ∧ w = w' := by
  have H := Lib.hid h
  clear h
  go_enter Try.func49, Try.ntmps49
  go_wp2_with fail
  refine (show Calls _ _ _ _ _ from H.out).mono ?_
  rintro e w1 ⟨rfl, rfl⟩
  go_wp2_with fail
  go_ret
  exact ⟨rfl, rfl⟩
set_option maxHeartbeats 1000000 in
theorem crash_no (p v : Value) (w : World) (h : NoDev p w) : Calls Try.prog 18 #[p, v] w fun e w' => e = .returned (.tuple #[]) ∧ w = w' := by
  have H := Lib.hid h
  clear h
  go_enter Try.func18, Try.ntmps18
  go_wp2_with fail
  refine (show Calls _ _ _ _ _ from H.out).mono ?_
  rintro e w1 ⟨rfl, rfl⟩
  go_wp2_with fail
  refine bodyPost_ret (results_none rfl _ _ _) rfl ?_
  exact ⟨rfl, rfl⟩
set_option maxHeartbeats 1000000 in
theorem blocks_no (p : Value) (w : World) (h : NoDev p w) : Calls Try.prog 28 #[p] w fun e w' => e = .returned (.int .i64 0) ∧ w = w' := by
  have H := Lib.hid h
  clear h
  go_enter Try.func28, Try.ntmps28
  go_wp2_with fail
  refine (show Calls _ _ _ _ _ from H.out).mono ?_
  rintro e w1 ⟨rfl, rfl⟩
  go_wp2_with fail
  go_ret
  exact ⟨rfl, rfl⟩
set_option maxHeartbeats 1000000 in
theorem fresh_no (p : Value) (w : World) (h : NoDev p w) : Calls Try.prog 20 #[p] w fun e w' => e = .returned (.slice none 0 0) ∧ w = w' := by
  have H := Lib.hid h
  clear h
  go_enter Try.func20, Try.ntmps20
  go_wp2_with fail
  refine (show Calls _ _ _ _ _ from H.out).mono ?_
  rintro e w1 ⟨rfl, rfl⟩
  go_wp2_with fail
  go_ret
  exact ⟨rfl, rfl⟩
theorem madeZeros (n : Nat) : madeCells (Value.int .u8 0).cells n = (u8s (List.replicate n 0)).toArray := by
  apply Array.ext
  · rw [size_madeCells]
    simp [u8s]
  · intro i h1 h2
    have e : i % 1 = 0 := Nat.mod_one i
    simp [madeCells, Value.cells, u8s, e]
/-- make([]byte, n). -/
theorem run_makeZ (n : Nat) (hn : n ≤ 1000000) (W : World) : (Instr.makeSlice 64 (.int .i64 (n : Int)) (.int .i64 (n : Int))).run Try.prog W = .ok (.slice (some ⟨W.heap.size, 0, none⟩) n n) (W.alloc (.cells (u8s (List.replicate n 0)).toArray 5)) := by
  obtain ⟨i0, hi, h⟩ := Option.map_eq_some_iff.1 (show (Try.prog.info? 5).map (fun i => (i.zero, i.size, i.bytes)) = some (some (.int .u8 0), 1, 1) by kernel_rfl)
  simp only [Prod.mk.injEq] at h
  obtain ⟨hz0, hz1, hz2⟩ := h
  have hmk := run_make (P := Try.prog) W 64 5 i0 (.int .u8 0) Try.underlying64 hi hz0 .i64 .i64 n n (by omega) (by omega) (by rw [hz2]; omega) (by omega)
  rw [Int.toNat_natCast, hz1, Nat.mul_one, madeZeros] at hmk
  exact hmk
theorem run_textZ (n : Nat) (W : World) : (convert 64 9 (.slice (some ⟨W.heap.size, 0, none⟩) n n)).run Try.prog (W.alloc (.cells (u8s (List.replicate n 0)).toArray 5)) = .ok (.string (bs (List.replicate n 0))) (W.alloc (.cells (u8s (List.replicate n 0)).toArray 5)) :=
  run_text_at Try.underlying64 Try.underlying9 Try.underlying5 _ _ n n _ (by simp) fun j hj => by
    rw [u8s_get _ j (by simpa using hj)]
    exact (Blk.alloc W 5 (u8s (List.replicate n 0)).toArray).cell j (by rw [List.getElem?_toArray]; exact u8s_get (List.replicate n 0) j (by simpa using hj))
end Go.Proofs.Ytdhngbfigklaoaa
