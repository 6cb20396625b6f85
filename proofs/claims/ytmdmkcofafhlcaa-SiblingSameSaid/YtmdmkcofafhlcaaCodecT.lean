/- The leaf calls of package codec: how many bytes a number's type has. No condition. -/
import Derived.Test.YtmdmkcofafhlcaaRows
import Derived.WalkKit
import Derived.WalkSpells
import Derived.WalkLawsBesides
import Derived.Test.YtmdmkcofafhlcaaFrm
import Derived.Lib.Strings
import Derived.Test.YtmdmkcofafhlcaaConv
section
namespace Go.Proofs.Ytmdmkcofafhlcaa
open Go.RowKit
set_option maxRecDepth 100000 in
set_option maxHeartbeats 400000 in
theorem len8 (w : World) : Calls Try.prog 107 #[.int .u32 255] w fun e w' => e = .returned (.int .i64 8) ∧ w = w' := by
  go_enter Try.func107, Try.ntmps107
  go_wp2_with fail
  go_ret
  exact ⟨by kernel_rfl, rfl⟩
set_option maxHeartbeats 400000 in
theorem width8 (w : World) : Calls Try.prog 112 #[] w fun e w' => e = .returned (.int .i64 1) ∧ w = w' := by
  go_enter Try.func112, Try.ntmps112
  go_wp2_with (go_at_call 107; refine (len8 _).mono ?_; rintro e w' ⟨rfl, rfl⟩)
  go_ret
  exact ⟨by kernel_rfl, rfl⟩
end Go.Proofs.Ytmdmkcofafhlcaa
end
section
namespace Go.Proofs.Ytmdmkcofafhlcaa
open Go.RowKit
/-- A reader: what is left, and its error. -/
structure Rd (w : World) (b : Nat) (l : List UInt8) (e : Nat) : Prop where
  blk : Blk w b 158 #[.string (bs l), .int .i64 e]
  len : l.length ≤ 140737488355328
  err : e ≤ 17

theorem Rd.c0 {w : World} {b : Nat} {l : List UInt8} {e : Nat} (h : Rd w b l e) : w.cell? ⟨b, 0, none⟩ = some (.string (bs l)) := h.blk.cell 0 rfl
theorem Rd.c1 {w : World} {b : Nat} {l : List UInt8} {e : Nat} (h : Rd w b l e) : w.cell? ⟨b, 1, none⟩ = some (.int .i64 e) := h.blk.cell 1 rfl
theorem Rd.keep {X : Nat → Prop} {w w' : World} {b : Nat} {l : List UInt8} {e : Nat} (h : Rd w b l e) (hf : Frm X w w') (hn : ¬ X b) : Rd w' b l e := ⟨h.blk.keep hf hn, h.len, h.err⟩
theorem Rd.lt {w : World} {b : Nat} {l : List UInt8} {e : Nat} (h : Rd w b l e) : b < w.heap.size := h.blk.lt
theorem Frm.one (b i : Nat) (u : Value) (w : World) : Frm (· = b) w (w.setCell ⟨b, i, none⟩ u) := (Frm.refl (· = b) w).setCell (p := ⟨b, i, none⟩) (fun _ => rfl) u
theorem Rd.rest {w : World} {b : Nat} {l : List UInt8} {e : Nat} (h : Rd w b l e) (k : Nat) : Rd (w.setCell ⟨b, 0, none⟩ (.string (bs (l.drop k)))) b (l.drop k) e :=
  ⟨h.blk.set 0 _, by have := h.len; rw [List.length_drop]; omega, h.err⟩

theorem bs_drop (l : List UInt8) (n : Nat) : (bs l).extract n (bs l).size = bs (l.drop n) := by
  apply ByteArray.ext
  simp only [bs_size, ByteArray.data_extract]
  apply Array.ext'
  simp [bs]
  rw [List.take_of_length_le (by simp)]
end Go.Proofs.Ytmdmkcofafhlcaa
end
section
namespace Go.Proofs.Ytmdmkcofafhlcaa
open Go.RowKit
theorem Row.u8 {w : World} {g n cap : Nat} {s : List UInt8} (h : Row w 1 (.slice (some ⟨g, 0, none⟩) n cap) s.length (u8s s)) (k : Nat) (hk : k < s.length) : w.cell? ⟨g, k, none⟩ = some (.int .u8 s[k].toNat) := by
  rcases h.2 with ⟨hv, _⟩ | ⟨g', cap', hv, _, _, _, h4, _⟩
  · cases hv
  · cases hv
    rw [h4 k (by simpa using hk), u8s_get s k hk]
end Go.Proofs.Ytmdmkcofafhlcaa
end
