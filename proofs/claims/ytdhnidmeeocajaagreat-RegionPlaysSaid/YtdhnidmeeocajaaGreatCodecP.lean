/- What the putting of fixed numbers does. -/
import Derived.Test.YtdhnidmeeocajaaGreatCodecW
import Derived.LoopN
namespace Go.Proofs.YtdhnidmeeocajaaGreat
open Go.RowKit
/-- The k bytes of a number, the highest one first. -/
def beB : Nat → Nat → List UInt8
  | 0, _ => []
  | k + 1, n => beB k (n / 256) ++ [UInt8.ofNat n]
theorem beB_len (k : Nat) : ∀ n, (beB k n).length = k := by
  induction k with
  | zero => intro n; rfl
  | succ k ih => intro n; simp [beB, ih]

/-- The bytes behind an address are those of a number. -/
theorem text_of_cells {w : World} {cs : List Value} {l : List UInt8} (g n cap : Nat) (hb : Blk w g 5 cs.toArray) (hl : l.length = n) (hc : cs = u8s l) :
    (convert 77 9 (.slice (some ⟨g, 0, none⟩) n cap)).run Tryz.prog w = .ok (.string (bs l)) w := by
  refine run_text_at Tryz.underlying77 Tryz.underlying9 Tryz.underlying5 w g n cap l hl fun j hj => ?_
  have hj2 : j < cs.length := by rw [hc, u8s_length, hl]; exact hj
  rw [hb.cell j (v := cs[j]) (by simp [hj2]), ← hc, List.getElem?_eq_getElem hj2]

set_option maxRecDepth 100000 in
set_option maxHeartbeats 1000000 in
theorem put_u8 (p : Option Addr) (n : Nat) (hn : n < 256) (w : World) (R : Ending → World → Prop)
    (hraw : ∀ w', Frm (fun _ => False) w w' → Calls Tryz.prog 95 #[.pointer p, .string (bs (beB 1 n))] w' fun e w'' => e = .returned (.tuple #[]) ∧ R e w'') :
    Calls Tryz.prog 138 #[.pointer p, .int .u8 n] w R := by
  have Hraw := Lib.hid hraw
  clear hraw
  have hmk : ∀ w, (Instr.makeSlice 77 (.int .i64 1) (.int .i64 1)).run Tryz.prog w = .ok (.slice (some ⟨w.heap.size, 0, none⟩) 1 1) (w.alloc (.cells #[.int .u8 0] 5)) := fun _ => by kernel_rfl
  go_enter Tryz.func138, Tryz.ntmps138
  go_wp2_with (go_at_call 147; refine (width8 _).mono ?_; rintro r w' ⟨rfl, rfl⟩)
  refine wp_loop_rounds 2 ?_
  rw [rounds_succ]
  go_wp2
  rw [rounds_succ]
  go_wp2_with fail
  rw [text_of_cells (l := beB 1 n) _ 1 1 (Blk.alloc w _ _) (beB_len 1 n) (by simp [beB, u8s]; try omega)]
  clear hmk
  go_wp2_with fail
  refine (Hraw.out _ ((Frm.refl _ w).alloc _)).mono ?_
  rintro e w' ⟨rfl, hR⟩
  go_wp2
  go_end0
  exact hR

set_option maxRecDepth 100000 in
set_option maxHeartbeats 1000000 in
theorem put_u16 (p : Option Addr) (n : Nat) (hn : n < 65536) (w : World) (R : Ending → World → Prop)
    (hraw : ∀ w', Frm (fun _ => False) w w' → Calls Tryz.prog 95 #[.pointer p, .string (bs (beB 2 n))] w' fun e w'' => e = .returned (.tuple #[]) ∧ R e w'') :
    Calls Tryz.prog 137 #[.pointer p, .int .u16 n] w R := by
  have Hraw := Lib.hid hraw
  clear hraw
  have hmk : ∀ w, (Instr.makeSlice 77 (.int .i64 2) (.int .i64 2)).run Tryz.prog w = .ok (.slice (some ⟨w.heap.size, 0, none⟩) 2 2) (w.alloc (.cells #[.int .u8 0, .int .u8 0] 5)) := fun _ => by kernel_rfl
  go_enter Tryz.func137, Tryz.ntmps137
  go_wp2_with (go_at_call 146; refine (width16 _).mono ?_; rintro r w' ⟨rfl, rfl⟩)
  refine wp_loop_rounds 3 ?_
  rw [rounds_succ]
  go_wp2
  rw [rounds_succ]
  go_wp2
  rw [rounds_succ]
  go_wp2_with fail
  rw [text_of_cells (l := beB 2 n) _ 2 2 (Blk.alloc w _ _) (beB_len 2 n) (by simp [beB, u8s]; try omega)]
  clear hmk
  go_wp2_with fail
  refine (Hraw.out _ ((Frm.refl _ w).alloc _)).mono ?_
  rintro e w' ⟨rfl, hR⟩
  go_wp2
  go_end0
  exact hR

set_option maxRecDepth 100000 in
set_option maxHeartbeats 1000000 in
theorem put_u32 (p : Option Addr) (n : Nat) (hn : n < 4294967296) (w : World) (R : Ending → World → Prop)
    (hraw : ∀ w', Frm (fun _ => False) w w' → Calls Tryz.prog 95 #[.pointer p, .string (bs (beB 4 n))] w' fun e w'' => e = .returned (.tuple #[]) ∧ R e w'') :
    Calls Tryz.prog 122 #[.pointer p, .int .u32 n] w R := by
  have Hraw := Lib.hid hraw
  clear hraw
  have hmk : ∀ w, (Instr.makeSlice 77 (.int .i64 4) (.int .i64 4)).run Tryz.prog w = .ok (.slice (some ⟨w.heap.size, 0, none⟩) 4 4) (w.alloc (.cells #[.int .u8 0, .int .u8 0, .int .u8 0, .int .u8 0] 5)) := fun _ => by kernel_rfl
  go_enter Tryz.func122, Tryz.ntmps122
  go_wp2_with (go_at_call 139; refine (width32 _).mono ?_; rintro r w' ⟨rfl, rfl⟩)
  refine wp_loop_rounds 5 ?_
  rw [rounds_succ]
  go_wp2
  rw [rounds_succ]
  go_wp2
  rw [rounds_succ]
  go_wp2
  rw [rounds_succ]
  go_wp2
  rw [rounds_succ]
  go_wp2_with fail
  rw [text_of_cells (l := beB 4 n) _ 4 4 (Blk.alloc w _ _) (beB_len 4 n) (by simp [beB, u8s]; try omega)]
  clear hmk
  go_wp2_with fail
  refine (Hraw.out _ ((Frm.refl _ w).alloc _)).mono ?_
  rintro e w' ⟨rfl, hR⟩
  go_wp2
  go_end0
  exact hR

set_option maxHeartbeats 400000 in
theorem w_u8 (p : Option Addr) (n : Nat) (hn : n < 256) (w : World) (R : Ending → World → Prop)
    (hraw : ∀ w', Frm (fun _ => False) w w' → Calls Tryz.prog 95 #[.pointer p, .string (bs (beB 1 n))] w' fun e w'' => e = .returned (.tuple #[]) ∧ R e w'') :
    Calls Tryz.prog 121 #[.pointer p, .int .u8 n] w R := by
  have Hput := Lib.hid (put_u8 p n hn w (fun e w'' => e = .returned (.tuple #[]) ∧ R e w'') fun w' hf => (hraw w' hf).mono fun e w'' ⟨h1, h2⟩ => ⟨h1, h1, h2⟩)
  clear hraw
  go_enter Tryz.func121, Tryz.ntmps121
  go_wp2_with fail
  refine Hput.out.mono ?_
  rintro e w' ⟨rfl, hR⟩
  go_wp2
  go_end0
  exact hR

set_option maxHeartbeats 400000 in
theorem w_u16 (p : Option Addr) (n : Nat) (hn : n < 65536) (w : World) (R : Ending → World → Prop)
    (hraw : ∀ w', Frm (fun _ => False) w w' → Calls Tryz.prog 95 #[.pointer p, .string (bs (beB 2 n))] w' fun e w'' => e = .returned (.tuple #[]) ∧ R e w'') :
    Calls Tryz.prog 120 #[.pointer p, .int .u16 n] w R := by
  have Hput := Lib.hid (put_u16 p n hn w (fun e w'' => e = .returned (.tuple #[]) ∧ R e w'') fun w' hf => (hraw w' hf).mono fun e w'' ⟨h1, h2⟩ => ⟨h1, h1, h2⟩)
  clear hraw
  go_enter Tryz.func120, Tryz.ntmps120
  go_wp2_with fail
  refine Hput.out.mono ?_
  rintro e w' ⟨rfl, hR⟩
  go_wp2
  go_end0
  exact hR

set_option maxHeartbeats 400000 in
theorem w_u32 (p : Option Addr) (n : Nat) (hn : n < 4294967296) (w : World) (R : Ending → World → Prop)
    (hraw : ∀ w', Frm (fun _ => False) w w' → Calls Tryz.prog 95 #[.pointer p, .string (bs (beB 4 n))] w' fun e w'' => e = .returned (.tuple #[]) ∧ R e w'') :
    Calls Tryz.prog 94 #[.pointer p, .int .u32 n] w R := by
  have Hput := Lib.hid (put_u32 p n hn w (fun e w'' => e = .returned (.tuple #[]) ∧ R e w'') fun w' hf => (hraw w' hf).mono fun e w'' ⟨h1, h2⟩ => ⟨h1, h1, h2⟩)
  clear hraw
  go_enter Tryz.func94, Tryz.ntmps94
  go_wp2_with fail
  refine Hput.out.mono ?_
  rintro e w' ⟨rfl, hR⟩
  go_wp2
  go_end0
  exact hR

/-- A fixed number is put behind what was written. -/
theorem raw_of (b : Nat) (s t : List UInt8) (fp : List Nat) (w : World) (h : Wr w b s fp) (hl : s.length + t.length ≤ 70368744177664) :
    ∀ w', Frm (fun _ => False) w w' → Calls Tryz.prog 95 #[.pointer (some ⟨b, 0, none⟩), .string (bs t)] w' fun e w'' => e = .returned (.tuple #[]) ∧
      ∃ fp', Wr w'' b (s ++ t) fp' ∧ Frm (· ∈ fp) w w'' ∧ ∀ k ∈ fp', k ∈ fp ∨ w.heap.size ≤ k := fun w' hf =>
  (raw_any b s t fp w' (h.keep hf (fun _ _ h => h)) hl).mono fun _ _ ⟨h1, fp', h2, h3, h4⟩ => ⟨h1, fp', h2, (hf.mono (fun _ _ h => h.elim)).next h3 (fun _ _ h => h), fun k hk => (h4 k hk).imp id fun e => Nat.le_trans hf.size e⟩
end Go.Proofs.YtdhnidmeeocajaaGreat

