/- Of any acts the statement SiblingSame answers true. No condition. -/
import Derived.Test.YtmdmkcofafhlcaaSmC
import Derived.Test.YtmdmkcofafhlcaaRingA
import Derived.Test.YtmdmkcofafhlcaaSibX
import Derived.Test.YtmdmkcofafhlcaaLate
namespace Go.Proofs.Ytmdmkcofafhlcaa
open Go.RowKit

/-- What lies between two acts. -/
structure JS (w : World) (A : Nat) (W : World) (E : List EvI) (F : Nat → Nat → Nat) (V : Nat → Value) (L : Nat → List SibI) : Prop where
  all : AllB W A F V
  sl : ∀ k, k < 4 → SL W (V k) (L k)
  ne : ∀ k, k < 4 → ∀ g, blkOf (V k) = some g → g ≠ A
  hist : Hist E F L
  frm : Frm (fun _ => False) w W
theorem JS.keep {w W W' : World} {A : Nat} {E : List EvI} {F : Nat → Nat → Nat} {V : Nat → Value} {L : Nat → List SibI} (h : JS w A W E F V L) (g : Frm (fun _ => False) W W') : JS w A W' E F V L :=
  ⟨h.all.keep g (fun h => h), fun k hk => (h.sl k hk).keepF g, h.ne, h.hist, h.frm.trans g⟩
theorem JS.act {w W : World} {A : Nat} {E E' : List EvI} {F : Nat → Nat → Nat} {V : Nat → Value} {L : Nat → List SibI} (h : JS w A W E F V L) {r : Nat} (hr : r < 4) {f : Nat → Nat} {v : Value} {l : List SibI} (hs : SL W v l) (hn : ∀ g, blkOf v = some g → g ≠ A) (hH : Hist E' (setF F r f) (setF L r l)) (hA : w.heap.size ≤ A) :
    JS w A (W.setCells A (r * 9) (rgc f v).toList) E' (setF F r f) (setF V r v) (setF L r l) := by
  have g : Frm (fun q => q = A) W (W.setCells A (r * 9) (rgc f v).toList) := Frm.setCells (X := fun q => q = A) A (fun _ => rfl) _ _ _ (Frm.refl _ W)
  refine ⟨h.all.set hr f v, fun k hk => ?_, fun k hk q e => ?_, hH, h.frm.next g (fun k hk e => by have e : k = A := e; omega)⟩
  · by_cases c : k = r
    · subst c; rw [setF_at, setF_at]; exact hs.keep g hn
    · rw [setF_ne c, setF_ne c]; exact (h.sl k hk).keep g (h.ne k hk)
  · by_cases c : k = r
    · subst c; rw [setF_at] at e; exact hn q e
    · rw [setF_ne c] at e; exact h.ne k hk q e
def ss8M : List Nat := [1, 2, 7, 15, 31, 63, 127, 191, 319, 575, 1024, 2048, 8191, 12287, 20479, 36863]
def ss8R (A : Nat) (g : Nat) (off : Nat) (n : Nat) (cap : Nat) (k : Nat) (K : Nat) (F : Nat → Nat → Nat) (L : Nat → List SibI) (x : SActI) : List ((Nat → Value) → World → Prop) := [
  fun val _ => val 0 = .slice (some ⟨g, off, none⟩) n cap,
  fun val _ => val 1 = .int .i64 (k : Int),
  fun val _ => val 2 = .pointer (some ⟨g, off + k * 5, none⟩),
  fun val _ => val 3 = .agg #[.int .u8 x.k, .int .u8 x.r, .int .u8 x.m, .int .u8 x.o, .string (bs x.s)],
  fun val W => ∃ f' v' l' p' q' vo' Dv' e', (val 4) = .tuple #[rg f' v', .agg (dv p' q'), vo', .int .i64 (e' : Nat)] ∧ SL W v' l' ∧ (∀ g, blkOf v' = some g → g ≠ A) ∧ OneIs F L x f' l' p' q' Dv' e',
  fun val _ => val 5 = (val 4),
  fun val _ => val 6 = tupAt (val 5) 0,
  fun val _ => val 7 = tupAt (val 5) 1,
  fun val _ => val 8 = tupAt (val 5) 2,
  fun val _ => val 9 = tupAt (val 5) 3,
  fun val W => ∃ b, (val 10) = .pointer (some ⟨b, 0, none⟩) ∧ K ≤ b ∧ Blk W b 39 rz,
  fun val W => ∃ b, (val 11) = .pointer (some ⟨b, 0, none⟩) ∧ K ≤ b ∧ Blk W b 27 dz]
def ss10aM : List Nat := [1, 2, 7, 15, 31, 63, 127, 255, 511, 1023, 2047, 4095, 8191, 16383, 32767, 40959, 106495, 237567, 499711, 1048575, 2097151, 4194303, 4202495, 16777215, 33554431, 67108863, 134217727, 268435455, 335544319, 872415231, 1946157055, 4093640703, 8589934591, 17179869183, 34359738367, 34426847231, 68786585599, 240585277439, 515463184383, 1065218998271, 2199023255551, 4398046511103, 8796093022207]
def ss10aR (g : Nat) (off : Nat) (n : Nat) (cap : Nat) (k : Nat) (m : Nat) (x : SActI) : List ((Nat → Value) → World → Prop) := [
  fun val _ => val 0 = .slice (some ⟨g, off, none⟩) n cap,
  fun val _ => val 1 = .int .i64 (k : Int),
  fun val _ => val 2 = .pointer (some ⟨g, off + k * 5, none⟩),
  fun val _ => val 3 = .pointer (some ⟨g, off + k * 5, none⟩),
  fun val _ => val 4 = .int .u8 (x.k : Int),
  fun val _ => val 5 = .int .u8 (m : Int),
  fun val _ => val 6 = .bool false,
  fun val _ => val 7 = .bool false,
  fun val _ => val 8 = undef,
  fun val _ => val 9 = undef,
  fun val _ => val 10 = undef,
  fun val _ => val 11 = undef,
  fun val _ => val 12 = undef,
  fun val _ => val 13 = undef,
  fun val _ => val 14 = undef,
  fun val _ => val 15 = undef,
  fun val _ => val 16 = undef,
  fun val _ => val 17 = undef,
  fun val _ => val 18 = undef,
  fun val _ => val 19 = undef,
  fun val _ => val 20 = undef,
  fun val _ => val 21 = undef,
  fun val _ => val 22 = undef,
  fun val _ => val 23 = undef,
  fun val _ => val 24 = undef,
  fun val _ => val 25 = undef,
  fun val _ => val 26 = undef,
  fun val _ => val 27 = undef,
  fun val _ => val 28 = undef,
  fun val _ => val 29 = undef,
  fun val _ => val 30 = undef,
  fun val _ => val 31 = undef,
  fun val _ => val 32 = undef,
  fun val _ => val 33 = undef,
  fun val _ => val 34 = undef,
  fun val _ => val 35 = undef,
  fun val _ => val 36 = undef,
  fun val _ => val 37 = undef,
  fun val _ => val 38 = undef,
  fun val _ => val 39 = undef,
  fun val _ => val 40 = undef,
  fun val _ => val 41 = undef,
  fun val _ => val 42 = .bool false]
def ss10bM : List Nat := [1, 2, 7, 15, 31, 63, 127, 255, 511, 1023, 2047, 4095, 8191, 16383, 32767, 40959, 106495, 237567, 499711, 1048575, 2097151, 4194303, 4202495, 16777215, 33554431, 67108863, 134217727, 268435455, 335544319, 872415231, 1946157055, 4093640703, 8589934591, 17179869183, 34359738367, 34426847231, 68786585599, 240585277439, 515463184383, 1065218998271, 2199023255551, 4398046511103, 8796093022207]
def ss10bR (g : Nat) (off : Nat) (n : Nat) (cap : Nat) (k : Nat) (m : Nat) (x : SActI) (B6 : Nat) (g1 : Nat) (of1 : Nat) (z : Nat) (c1 : Nat) (p1 : Nat) (q1 : Nat) : List ((Nat → Value) → World → Prop) := [
  fun val _ => val 0 = .slice (some ⟨g, off, none⟩) n cap,
  fun val _ => val 1 = .int .i64 (k : Int),
  fun val _ => val 2 = .pointer (some ⟨g, off + k * 5, none⟩),
  fun val _ => val 3 = .pointer (some ⟨g, off + k * 5, none⟩),
  fun val _ => val 4 = .int .u8 (x.k : Int),
  fun val _ => val 5 = .int .u8 (m : Int),
  fun val _ => val 6 = .bool true,
  fun val _ => val 7 = .bool true,
  fun val _ => val 8 = .pointer (some ⟨B6, 8, none⟩),
  fun val _ => val 9 = .slice (some ⟨g1, of1, none⟩) (z + 1) c1,
  fun val _ => val 10 = .int .i64 ((z : Int) + 1),
  fun val _ => val 11 = .bool false,
  fun val _ => val 12 = .bool false,
  fun val _ => val 13 = .pointer (some ⟨B6, 8, none⟩),
  fun val _ => val 14 = .slice (some ⟨g1, of1, none⟩) (z + 1) c1,
  fun val _ => val 15 = .pointer (some ⟨B6, 8, none⟩),
  fun val _ => val 16 = .slice (some ⟨g1, of1, none⟩) (z + 1) c1,
  fun val _ => val 17 = .int .i64 ((z : Int) + 1),
  fun val _ => val 18 = .int .i64 (z : Int),
  fun val _ => val 19 = .pointer (some ⟨g1, of1 + z * 3, none⟩),
  fun val _ => val 20 = .pointer (some ⟨g1, of1 + z * 3, none⟩),
  fun val _ => val 21 = .agg (dv p1 q1),
  fun val _ => val 22 = .agg (dv p1 q1),
  fun val _ => val 23 = .bool false,
  fun val _ => val 24 = .bool false,
  fun val _ => val 25 = .bool false,
  fun val _ => val 26 = .pointer (some ⟨B6, 8, none⟩),
  fun val _ => val 27 = .slice (some ⟨g1, of1, none⟩) (z + 1) c1,
  fun val _ => val 28 = .pointer (some ⟨B6, 8, none⟩),
  fun val _ => val 29 = .slice (some ⟨g1, of1, none⟩) (z + 1) c1,
  fun val _ => val 30 = .int .i64 ((z : Int) + 1),
  fun val _ => val 31 = .int .i64 (z : Int),
  fun val _ => val 32 = .pointer (some ⟨g1, of1 + z * 3, none⟩),
  fun val _ => val 33 = .pointer (some ⟨g1, of1 + z * 3 + 2, none⟩),
  fun val _ => val 34 = .string (bs x.s),
  fun val _ => val 35 = .slice (some ⟨g, off, none⟩) n cap,
  fun val _ => val 36 = .int .i64 (k : Int),
  fun val _ => val 37 = .pointer (some ⟨g, off + k * 5, none⟩),
  fun val _ => val 38 = .pointer (some ⟨g, off + k * 5 + 4, none⟩),
  fun val _ => val 39 = .string (bs x.s),
  fun val _ => val 40 = .bool false,
  fun val _ => val 41 = .bool false,
  fun val _ => val 42 = .bool false]
def ss16tM : List Nat := [1, 3, 7, 15, 31, 63, 127, 255, 511, 1023, 1087, 3135, 7231, 15423, 32767, 32831, 98367, 229439, 262207, 786495, 1835071, 4161599, 8388607, 16777215]
def ss16tR (A : Nat) (r : Nat) (q : Nat) (F : Nat → Nat → Nat) (V : Nat → Value) : List ((Nat → Value) → World → Prop) := [
  fun val _ => val 0 = .int .i64 (q : Int),
  fun val _ => val 1 = .pointer (some ⟨A, q * 9, none⟩),
  fun val _ => val 2 = rg (F q) (V q),
  fun val _ => val 3 = .int .i64 0,
  fun val _ => val 4 = .bool false,
  fun val _ => val 5 = .bool false,
  fun val _ => val 6 = .int .i64 (q : Int),
  fun val _ => val 7 = .pointer (some ⟨A, q * 9, none⟩),
  fun val _ => val 8 = .pointer (some ⟨A, q * 9, none⟩),
  fun val _ => val 9 = .agg (vv (F q)),
  fun val _ => val 10 = .int .i64 (r : Int),
  fun val _ => val 11 = .pointer (some ⟨A, r * 9, none⟩),
  fun val _ => val 12 = .pointer (some ⟨A, r * 9, none⟩),
  fun val _ => val 13 = .agg (vv (F r)),
  fun val _ => val 14 = .bool true,
  fun val _ => val 15 = .int .i64 (q : Int),
  fun val _ => val 16 = .pointer (some ⟨A, q * 9, none⟩),
  fun val _ => val 17 = rg (F q) (V q),
  fun val _ => val 18 = .int .i64 (r : Int),
  fun val _ => val 19 = .pointer (some ⟨A, r * 9, none⟩),
  fun val _ => val 20 = rg (F r) (V r),
  fun val _ => val 21 = .bool true,
  fun val _ => val 22 = .bool false,
  fun val _ => val 23 = .bool false]
def ss16fM : List Nat := [1, 3, 7, 15, 31, 63, 127, 255, 511, 1023, 1087, 3135, 7231, 15423, 32767, 32831, 98367, 229439, 262207, 786495, 1835071, 4161599, 8388607, 16777215]
def ss16fR (A : Nat) (r : Nat) (q : Nat) (F : Nat → Nat → Nat) (V : Nat → Value) : List ((Nat → Value) → World → Prop) := [
  fun val _ => val 0 = .int .i64 (q : Int),
  fun val _ => val 1 = .pointer (some ⟨A, q * 9, none⟩),
  fun val _ => val 2 = rg (F q) (V q),
  fun val _ => val 3 = .int .i64 0,
  fun val _ => val 4 = .bool false,
  fun val _ => val 5 = .bool false,
  fun val _ => val 6 = .int .i64 (q : Int),
  fun val _ => val 7 = .pointer (some ⟨A, q * 9, none⟩),
  fun val _ => val 8 = .pointer (some ⟨A, q * 9, none⟩),
  fun val _ => val 9 = .agg (vv (F q)),
  fun val _ => val 10 = .int .i64 (r : Int),
  fun val _ => val 11 = .pointer (some ⟨A, r * 9, none⟩),
  fun val _ => val 12 = .pointer (some ⟨A, r * 9, none⟩),
  fun val _ => val 13 = .agg (vv (F r)),
  fun val _ => val 14 = .bool false,
  fun val _ => val 15 = .int .i64 (q : Int),
  fun val _ => val 16 = .pointer (some ⟨A, q * 9, none⟩),
  fun val _ => val 17 = rg (F q) (V q),
  fun val _ => val 18 = .int .i64 (r : Int),
  fun val _ => val 19 = .pointer (some ⟨A, r * 9, none⟩),
  fun val _ => val 20 = rg (F r) (V r),
  fun val _ => val 21 = .bool false,
  fun val _ => val 22 = .bool false,
  fun val _ => val 23 = .bool false]

set_option maxRecDepth 100000 in
set_option maxHeartbeats 8000000 in
theorem siblingSame_any (v : Value) (l : List SActI) (w : World) (h : AcL w v l) :
    Calls Try.prog 8 #[v] w fun e w' => e = .returned (.bool true) ∧ Frm (fun _ => False) w w' := by
  obtain ⟨a, cap, rfl, h1, h2⟩ := h.slice
  unfold maxLen at h2
  have HWK := Lib.hid sworks_any
  go_enter Try.func8, Try.ntmps8
  go_upto_region 1 with fail
  by_cases hq : smallS l
  rotate_left
  · have HC := Lib.hid (small_no _ l w h hq)
    clear hq
    go_wp2_with fail
    refine HC.out.mono ?_
    rintro e w1 ⟨rfl, rfl⟩
    go_wp2_with fail
    refine (HWK.out w).mono ?_
    rintro e w2 ⟨rfl, g⟩
    go_wp2_with fail
    go_ret
    exact ⟨rfl, g⟩
  have HC := Lib.hid (small_yes _ l w h hq)
  have hl40 := hq.1
  clear hq
  go_wp2_with fail
  refine HC.out.mono ?_
  rintro e w1 ⟨rfl, rfl⟩
  go_upto_region 5 with fail
  clear HC
  have J0 : JS w w.heap.size (w.alloc (.cells #[.int .u32 0, .int .u32 0, .int .u32 0, .int .u32 0, .int .u32 0, .int .u32 0, .int .u32 0, .int .u32 0, .slice none 0 0, .int .u32 0, .int .u32 0, .int .u32 0, .int .u32 0, .int .u32 0, .int .u32 0, .int .u32 0, .int .u32 0, .slice none 0 0, .int .u32 0, .int .u32 0, .int .u32 0, .int .u32 0, .int .u32 0, .int .u32 0, .int .u32 0, .int .u32 0, .slice none 0 0, .int .u32 0, .int .u32 0, .int .u32 0, .int .u32 0, .int .u32 0, .int .u32 0, .int .u32 0, .int .u32 0, .slice none 0 0] 79)) [] (fun _ _ => 0) (fun _ => .slice none 0 0) (fun _ => []) := ⟨AllB.start w 79, fun k _ => (OwnL.nil_ _).sl, fun k _ g e => (by cases e), hist0, (Frm.refl _ w).alloc _⟩
  obtain ⟨A, hA⟩ : ∃ A, w.heap.size = A := ⟨_, rfl⟩
  have HAe : Hid (w.heap.size ≤ A) := Lib.hid (Nat.le_of_eq hA)
  rw [hA] at J0 ⊢
  have HAc : Hid (∀ W, Frm (fun _ => False) w W → AcL W (.slice a l.length cap) l) := Lib.hid fun W g => h.keepF g
  clear hA h
  go_loopw [4] (fun i wr => ∃ (k : Nat) (E : List EvI) (F : Nat → Nat → Nat) (V : Nat → Value) (L : Nat → List SibI), k ≤ l.length ∧ i = .int .i64 k ∧ JS w A wr E F V L) (fun i _ => l.length - (intOf i).toNat)
  case atStart => exact ⟨0, [], _, _, _, Nat.zero_le _, rfl, J0⟩
  case round =>
    obtain ⟨k, E, F, V, L, hk, rfl, hJ⟩ := hrel
    have HJ0 := Lib.hid hJ
    clear hJ J0
    by_cases hlt : k < l.length
    · obtain ⟨g, off, rfl, x0, x1, x2, x3, x4⟩ := (HAc.out wr HJ0.out.frm).cells k hlt
      obtain ⟨x, hx⟩ : ∃ x, l[k] = x := ⟨_, rfl⟩
      rw [hx] at x0 x1 x2 x3 x4
      have HXC : Hid (∀ W, Frm (fun _ => False) wr W → W.cell? ⟨g, off + k * 5, none⟩ = some (.int .u8 x.k) ∧ W.cell? ⟨g, off + k * 5 + 1, none⟩ = some (.int .u8 x.r) ∧ W.cell? ⟨g, off + k * 5 + 2, none⟩ = some (.int .u8 x.m) ∧ W.cell? ⟨g, off + k * 5 + 3, none⟩ = some (.int .u8 x.o) ∧ W.cell? ⟨g, off + k * 5 + 4, none⟩ = some (.string (bs x.s))) := Lib.hid fun W hW => by
        obtain ⟨g', off', e, y0, y1, y2, y3, y4⟩ := (HAc.out W (HJ0.out.frm.trans hW)).cells k hlt
        cases e
        rw [hx] at y0 y1 y2 y3 y4
        exact ⟨y0, y1, y2, y3, y4⟩
      have HX : Hid (∀ W, Frm (fun _ => False) wr W → (Instr.loadAt 85 (.pointer (some ⟨g, off + k * 5, none⟩))).run Try.prog W = .ok (.agg #[.int .u8 x.k, .int .u8 x.r, .int .u8 x.m, .int .u8 x.o, .string (bs x.s)]) W) := Lib.hid fun W hW =>
        run_loadAt_mid W g (off + k * 5) 85 [.int .u8 x.k, .int .u8 x.r, .int .u8 x.m, .int .u8 x.o, .string (bs x.s)] _ (fun j u hu => by
          obtain ⟨y0, y1, y2, y3, y4⟩ := HXC.out W hW
          rcases j with _ | _ | _ | _ | _ | j
          · cases hu; exact y0
          · cases hu; exact y1
          · cases hu; exact y2
          · cases hu; exact y3
          · cases hu; exact y4
          · cases hu) Try.underlying85 rfl (by show _ = some 5; kernel_rfl)
      have HJW : Hid (∀ W, Frm (fun _ => False) wr W → JS w A W E F V L) := Lib.hid fun W hW => HJ0.out.keep hW
      have hki : (k : Int) < (l.length : Int) := by omega
      have hk0 : (0 : Int) ≤ (k : Int) := by omega
      obtain ⟨n, hn⟩ : ∃ n, l.length = n := ⟨_, rfl⟩
      have HLN := Lib.hid hn
      obtain ⟨r, hr0⟩ : ∃ r, x.r % 4 = r := ⟨_, rfl⟩
      have hr : r < 4 := by omega
      have hri : (r : Int) < 4 := by omega
      have hri0 : (0 : Int) ≤ (r : Int) := by omega
      have HR := Lib.hid hr0
      rw [hn] at hki hl40 h1 ⊢
      clear hx hn x0 x2 x3 x4
      go_upto_region 8 with fail
      rename_i hK
      rw [show ((x.r : Int) % 4) = (r : Int) by omega]
      clear x1 hr0
      obtain ⟨K, hK0⟩ : ∃ K, wr.heap.size = K := ⟨_, rfl⟩
      have HK : Hid (∀ W, Frm (fun _ => False) wr W → K ≤ W.heap.size) := Lib.hid fun W g => hK0 ▸ g.size
      have HE : Hid (wr.heap.size ≤ K) := Lib.hid (Nat.le_of_eq hK0)
      clear hK0
      have D : Frm (fun _ => False) wr wr := Frm.refl _ _
      refine wp_region_textR 12 4 [[], [], [0, 1], [2], [3], [4], [4, 5], [4, 5], [4, 5], [4, 5], [], []] ss8M (ss8R A g off n cap k K F L x) rfl rfl rfl rfl (by kernel_rfl) (by kernel_rfl) (fun val => ?_) ?_
      · try simp only [Act.put, List.setIfInBounds_toArray, List.set_cons_zero, List.set_cons_succ]
        refine RelO.next (k' := 1) rfl (fun W gW hF => ?_) ?_
        focus
          refine OpOK.val (u := .slice (some ⟨g, off, none⟩) n cap) (by rfl) ?_ (fun W' _ => rfl)
          try simp only [tupAt]
          first | (go_simp; done) | (go_simp; with_reducible rfl) | (go_simp; rfl)
        try simp only [Act.put, List.setIfInBounds_toArray, List.set_cons_zero, List.set_cons_succ]
        refine RelO.next (k' := 2) rfl (fun W gW hF => ?_) ?_
        focus
          refine OpOK.val (u := .int .i64 (k : Int)) (by rfl) ?_ (fun W' _ => rfl)
          try simp only [tupAt]
          first | (go_simp; done) | (go_simp; with_reducible rfl) | (go_simp; rfl)
        try simp only [Act.put, List.setIfInBounds_toArray, List.set_cons_zero, List.set_cons_succ]
        refine RelO.next (k' := 3) rfl (fun W gW hF => ?_) ?_
        focus
          obtain ⟨h0, h1, _⟩ := hF
          have e0 : val 0 = .slice (some ⟨g, off, none⟩) n cap := h0 _ (Frm.refl _ W)
          have e1 : val 1 = .int .i64 (k : Int) := h1 _ (Frm.refl _ W)
          try simp only [e1]
          try simp only [e0]
          try simp only [tupAt]
          refine OpOK.val (u := .pointer (some ⟨g, off + k * 5, none⟩)) (by rfl) ?_ (fun W' _ => rfl)
          try simp only [e1]
          try simp only [e0]
          try simp only [tupAt]
          first | (go_simp; done) | (go_simp; with_reducible rfl) | (go_simp; rfl)
        try simp only [Act.put, List.setIfInBounds_toArray, List.set_cons_zero, List.set_cons_succ]
        refine RelO.next (k' := 4) rfl (fun W gW hF => ?_) ?_
        focus
          obtain ⟨h2, _⟩ := hF
          have e2 : val 2 = .pointer (some ⟨g, off + k * 5, none⟩) := h2 _ (Frm.refl _ W)
          try simp only [e2]
          try simp only [tupAt]
          exact OpOK.load (by rfl) _ rfl (by rfl) (HX.out W (D.trans gW)) (fun W' _ => rfl)
        try simp only [Act.put, List.setIfInBounds_toArray, List.set_cons_zero, List.set_cons_succ]
        refine RelO.next (k' := 5) rfl (fun W gW hF => ?_) ?_
        focus
          obtain ⟨h3, _⟩ := hF
          have e3 : val 3 = .agg #[.int .u8 x.k, .int .u8 x.r, .int .u8 x.m, .int .u8 x.o, .string (bs x.s)] := h3 _ (Frm.refl _ W)
          try simp only [e3]
          try simp only [tupAt]
          refine OpOK.call (by rfl) ?_ ((one_any A F V L x W (HJW.out W (D.trans gW)).all (HJW.out W (D.trans gW)).sl (HJW.out W (D.trans gW)).hist.fit (HJW.out W (D.trans gW)).hist.few).mono ?_)
          · first | (go_simp; done) | (go_simp; with_reducible rfl) | (go_simp; rfl)
          · rintro e W1 ⟨f', v', l', p', q', vo', Dv', e', rfl, o', n', _, g', ho'⟩
            have hlt := (HJW.out W (D.trans gW)).all.lt
            exact ⟨_, rfl, g', fun W2 g2 => ⟨f', v', l', p', q', vo', Dv', e', rfl, o'.keepF g2, fun g e => by have := n' g e; omega, ho'⟩⟩
        try simp only [Act.put, List.setIfInBounds_toArray, List.set_cons_zero, List.set_cons_succ]
        refine RelO.next (k' := 6) rfl (fun W gW hF => ?_) ?_
        focus
          obtain ⟨h4, _⟩ := hF
          have q4 : ∃ f' v' l' p' q' vo' Dv' e', (val 4) = .tuple #[rg f' v', .agg (dv p' q'), vo', .int .i64 (e' : Nat)] ∧ SL W v' l' ∧ (∀ g, blkOf v' = some g → g ≠ A) ∧ OneIs F L x f' l' p' q' Dv' e' := h4 _ (Frm.refl _ W)
          obtain ⟨f1, v1, l1, p1, q1, vo, Dv, er, e4, o1, n1, hOne⟩ := q4
          try simp only [e4]
          try simp only [tupAt]
          refine OpOK.val (u := (val 4)) (by rfl) ?_ (fun W' _ => rfl)
          try simp only [e4]
          try simp only [tupAt]
          first | (go_simp; done) | (go_simp; with_reducible rfl) | (go_simp; rfl)
        try simp only [Act.put, List.setIfInBounds_toArray, List.set_cons_zero, List.set_cons_succ]
        refine RelO.next (k' := 7) rfl (fun W gW hF => ?_) ?_
        focus
          obtain ⟨h4, h5, _⟩ := hF
          have q4 : ∃ f' v' l' p' q' vo' Dv' e', (val 4) = .tuple #[rg f' v', .agg (dv p' q'), vo', .int .i64 (e' : Nat)] ∧ SL W v' l' ∧ (∀ g, blkOf v' = some g → g ≠ A) ∧ OneIs F L x f' l' p' q' Dv' e' := h4 _ (Frm.refl _ W)
          obtain ⟨f1, v1, l1, p1, q1, vo, Dv, er, e4, o1, n1, hOne⟩ := q4
          have e5 : val 5 = (val 4) := h5 _ (Frm.refl _ W)
          try simp only [e5]
          try simp only [e4]
          try simp only [tupAt]
          refine OpOK.val (u := tupAt (val 5) 0) (by rfl) ?_ (fun W' _ => rfl)
          try simp only [e5]
          try simp only [e4]
          try simp only [tupAt]
          first | (go_simp; done) | (go_simp; with_reducible rfl) | (go_simp; rfl)
        try simp only [Act.put, List.setIfInBounds_toArray, List.set_cons_zero, List.set_cons_succ]
        refine RelO.next (k' := 8) rfl (fun W gW hF => ?_) ?_
        focus
          obtain ⟨h4, h5, _⟩ := hF
          have q4 : ∃ f' v' l' p' q' vo' Dv' e', (val 4) = .tuple #[rg f' v', .agg (dv p' q'), vo', .int .i64 (e' : Nat)] ∧ SL W v' l' ∧ (∀ g, blkOf v' = some g → g ≠ A) ∧ OneIs F L x f' l' p' q' Dv' e' := h4 _ (Frm.refl _ W)
          obtain ⟨f1, v1, l1, p1, q1, vo, Dv, er, e4, o1, n1, hOne⟩ := q4
          have e5 : val 5 = (val 4) := h5 _ (Frm.refl _ W)
          try simp only [e5]
          try simp only [e4]
          try simp only [tupAt]
          refine OpOK.val (u := tupAt (val 5) 1) (by rfl) ?_ (fun W' _ => rfl)
          try simp only [e5]
          try simp only [e4]
          try simp only [tupAt]
          first | (go_simp; done) | (go_simp; with_reducible rfl) | (go_simp; rfl)
        try simp only [Act.put, List.setIfInBounds_toArray, List.set_cons_zero, List.set_cons_succ]
        refine RelO.next (k' := 9) rfl (fun W gW hF => ?_) ?_
        focus
          obtain ⟨h4, h5, _⟩ := hF
          have q4 : ∃ f' v' l' p' q' vo' Dv' e', (val 4) = .tuple #[rg f' v', .agg (dv p' q'), vo', .int .i64 (e' : Nat)] ∧ SL W v' l' ∧ (∀ g, blkOf v' = some g → g ≠ A) ∧ OneIs F L x f' l' p' q' Dv' e' := h4 _ (Frm.refl _ W)
          obtain ⟨f1, v1, l1, p1, q1, vo, Dv, er, e4, o1, n1, hOne⟩ := q4
          have e5 : val 5 = (val 4) := h5 _ (Frm.refl _ W)
          try simp only [e5]
          try simp only [e4]
          try simp only [tupAt]
          refine OpOK.val (u := tupAt (val 5) 2) (by rfl) ?_ (fun W' _ => rfl)
          try simp only [e5]
          try simp only [e4]
          try simp only [tupAt]
          first | (go_simp; done) | (go_simp; with_reducible rfl) | (go_simp; rfl)
        try simp only [Act.put, List.setIfInBounds_toArray, List.set_cons_zero, List.set_cons_succ]
        refine RelO.next (k' := 10) rfl (fun W gW hF => ?_) ?_
        focus
          obtain ⟨h4, h5, _⟩ := hF
          have q4 : ∃ f' v' l' p' q' vo' Dv' e', (val 4) = .tuple #[rg f' v', .agg (dv p' q'), vo', .int .i64 (e' : Nat)] ∧ SL W v' l' ∧ (∀ g, blkOf v' = some g → g ≠ A) ∧ OneIs F L x f' l' p' q' Dv' e' := h4 _ (Frm.refl _ W)
          obtain ⟨f1, v1, l1, p1, q1, vo, Dv, er, e4, o1, n1, hOne⟩ := q4
          have e5 : val 5 = (val 4) := h5 _ (Frm.refl _ W)
          try simp only [e5]
          try simp only [e4]
          try simp only [tupAt]
          refine OpOK.val (u := tupAt (val 5) 3) (by rfl) ?_ (fun W' _ => rfl)
          try simp only [e5]
          try simp only [e4]
          try simp only [tupAt]
          first | (go_simp; done) | (go_simp; with_reducible rfl) | (go_simp; rfl)
        try simp only [Act.put, List.setIfInBounds_toArray, List.set_cons_zero, List.set_cons_succ]
        refine RelO.next (k' := 11) rfl (fun W gW hF => ?_) ?_
        focus
          have hlt := HK.out W (D.trans gW)
          refine OpOK.made (W' := W.alloc (.cells rz 39)) (u := .pointer (some ⟨W.heap.size, 0, none⟩)) (by rfl) ?_ ((Frm.refl _ W).alloc _) (fun W2 g2 => ⟨W.heap.size, rfl, hlt, (Blk.alloc W _ _).keep g2 (fun h => h)⟩)
          first | (go_simp; done) | (go_simp; with_reducible rfl) | (go_simp; rfl)
        try simp only [Act.put, List.setIfInBounds_toArray, List.set_cons_zero, List.set_cons_succ]
        refine RelO.next (k' := 12) rfl (fun W gW hF => ?_) ?_
        focus
          have hlt := HK.out W (D.trans gW)
          refine OpOK.made (W' := W.alloc (.cells dz 27)) (u := .pointer (some ⟨W.heap.size, 0, none⟩)) (by rfl) ?_ ((Frm.refl _ W).alloc _) (fun W2 g2 => ⟨W.heap.size, rfl, hlt, (Blk.alloc W _ _).keep g2 (fun h => h)⟩)
          first | (go_simp; done) | (go_simp; with_reducible rfl) | (go_simp; rfl)
        try simp only [Act.put, List.setIfInBounds_toArray, List.set_cons_zero, List.set_cons_succ]
        exact RelO.nil
      intro val w3 gW hF
      obtain ⟨h0, h1, h2, h3, h4, h5, h6, h7, h8, h9, h10, h11, hT⟩ := hF
      have e0 : val 0 = .slice (some ⟨g, off, none⟩) n cap := h0 _ (Frm.refl _ w3)
      have e1 : val 1 = .int .i64 (k : Int) := h1 _ (Frm.refl _ w3)
      have e2 : val 2 = .pointer (some ⟨g, off + k * 5, none⟩) := h2 _ (Frm.refl _ w3)
      have e3 : val 3 = .agg #[.int .u8 x.k, .int .u8 x.r, .int .u8 x.m, .int .u8 x.o, .string (bs x.s)] := h3 _ (Frm.refl _ w3)
      have q4 : ∃ f' v' l' p' q' vo' Dv' e', (val 4) = .tuple #[rg f' v', .agg (dv p' q'), vo', .int .i64 (e' : Nat)] ∧ SL w3 v' l' ∧ (∀ g, blkOf v' = some g → g ≠ A) ∧ OneIs F L x f' l' p' q' Dv' e' := h4 _ (Frm.refl _ w3)
      obtain ⟨f1, v1, l1, p1, q1, vo, Dv, er, e4, o1, n1, hOne⟩ := q4
      have e5 : val 5 = (val 4) := h5 _ (Frm.refl _ w3)
      have e6 : val 6 = tupAt (val 5) 0 := h6 _ (Frm.refl _ w3)
      have e7 : val 7 = tupAt (val 5) 1 := h7 _ (Frm.refl _ w3)
      have e8 : val 8 = tupAt (val 5) 2 := h8 _ (Frm.refl _ w3)
      have e9 : val 9 = tupAt (val 5) 3 := h9 _ (Frm.refl _ w3)
      have q10 : ∃ b, (val 10) = .pointer (some ⟨b, 0, none⟩) ∧ K ≤ b ∧ Blk w3 b 39 rz := h10 _ (Frm.refl _ w3)
      obtain ⟨B6, e10, hB6, bB6⟩ := q10
      have q11 : ∃ b, (val 11) = .pointer (some ⟨b, 0, none⟩) ∧ K ≤ b ∧ Blk w3 b 27 dz := h11 _ (Frm.refl _ w3)
      obtain ⟨B7, e11, hB7, bB7⟩ := q11
      clear hT h0 h1 h2 h3 h4 h5 h6 h7 h8 h9 h10 h11
      simp only [aO, Act.put, List.setIfInBounds_toArray, List.set_cons_zero, List.set_cons_succ, Nat.reduceAdd]
      try simp only [e11]
      try simp only [e10]
      try simp only [e9]
      try simp only [e8]
      try simp only [e7]
      try simp only [e6]
      try simp only [e5]
      try simp only [e4]
      try simp only [e3]
      try simp only [e2]
      try simp only [e1]
      try simp only [e0]
      try simp only [tupAt]
      refine tail_reg4 (w := wr) f1 v1 l1 B6 B7 p1 q1 vo (.int .i64 (er : Int)) rfl rfl rfl rfl rfl rfl rfl rfl rfl rfl rfl rfl rfl rfl rfl rfl rfl rfl rfl rfl rfl rfl (D.trans gW) (Nat.le_trans HE.out hB6) (Nat.le_trans HE.out hB7) o1 bB6 bB7 ?_
      intro w4 g4 H6 H7
      try simp only [Act.put, List.setIfInBounds_toArray, List.set_cons_zero, List.set_cons_succ]
      refine hK _ _ ?_
      have HN1 := Lib.hid n1
      have HO := Lib.hid hOne
      replace HJW := Hid.grow HJW g4
      replace HXC := Hid.grow HXC g4
      clear gW D hK HX HK HE n1 hOne o1 hB6 hB7 bB6 bB7 HJ0 e0 e1 e2 e3 e4 e5 e6 e7 e8 e9 e10 e11
      by_cases h0 : er = 0
      rotate_left
      · have h0i : ((er : Int) == 0) = false := by simp; exact h0
        clear h0
        go_wp2_with fail
        go_roundw
        case rel => exact ⟨k + 1, E, F, V, L, by omega, by go_num, HJW.out w4 (Frm.refl _ w4)⟩
        case measure => simp [intOf]; have := HLN.out; omega
      subst h0
      obtain ⟨⟨E', hE'⟩, hW⟩ := HJW.out w4 (Frm.refl _ w4) |>.hist.one HO.out
      rw [HR.out] at hE'
      have HE1 := Lib.hid hE'
      clear hE'
      obtain ⟨m, hm⟩ : ∃ m, x.k % 5 = m := ⟨_, rfl⟩
      have HMT : Hid (Int.tmod (x.k : Int) 5 = (m : Int)) := Lib.hid (by rw [show Int.tmod (x.k : Int) 5 = ((x.k % 5 : Nat) : Int) from rfl]; omega)
      rw [hm] at hW
      clear hm
      by_cases hm2 : m < 2
      · have HML : Hid ((m : Int) < 2) := Lib.hid (by omega)
        obtain ⟨l0, y, el, ep, eq, es⟩ := hW hm2
        clear hW hm2
        obtain ⟨z, hz⟩ : ∃ z, l0.length = z := ⟨_, rfl⟩
        have hlen : l1.length = z + 1 := by rw [el, List.length_append, hz]; rfl
        have hyl : z < l1.length := by omega
        have hgy : l1[z] = y := by
          subst hz
          simp only [el]
          exact List.getElem_concat_length rfl _
        obtain ⟨a1, c1, hv1, hc1, hc2⟩ := (H6.out w4 (Frm.refl _ w4)).2.slice
        unfold maxLen at hc2
        have hsl : ∀ W, Frm (fun _ => False) w4 W → SL W (.slice a1 l1.length c1) l1 := fun W g => hv1 ▸ (H6.out W g).2
        obtain ⟨g1, of1, ha1, hxx⟩ := (hsl w4 (Frm.refl _ w4)).cells z hyl
        subst ha1
        clear hxx
        have HY : Hid (∀ W, Frm (fun _ => False) w4 W → W.cell? ⟨g1, of1 + z * 3, none⟩ = some (.int .u8 p1) ∧ W.cell? ⟨g1, of1 + z * 3 + 1, none⟩ = some (.int .u32 q1) ∧ W.cell? ⟨g1, of1 + z * 3 + 2, none⟩ = some (.string (bs x.s))) := Lib.hid fun W gg => by
          obtain ⟨g', off', e, y0, y1, y2⟩ := (hsl W gg).cells z hyl
          cases e
          rw [hgy] at y0 y1 y2
          rw [← ep, ← eq, ← es]
          exact ⟨y0, y1, y2⟩
        rw [hlen] at hv1
        have HV1e := Lib.hid hv1
        clear hv1
        have HZ : Hid (((z + 1 : Nat) : Int) = (z : Int) + 1) := Lib.hid (by omega)
        have HZ0 : Hid (((z : Int) + 1 == 0) = false) := Lib.hid (by simp; omega)
        have HZ1 : Hid (IntKind.i64.wrap (z : Int) = (z : Int)) := Lib.hid (IntWalk.i64_in _ (by omega))
        have HZ2 : Hid ((z : Int) < (z : Int) + 1 ∧ (0 : Int) ≤ (z : Int)) := Lib.hid ⟨by omega, by omega⟩
        have HEQ : Hid (∀ W, (Op.equalIn 10000 27 (.agg (dv p1 q1)) (.agg (dv p1 q1))).run Try.prog W = .ok true W) := Lib.hid fun W => by rw [run_eq_dot]; simp
        have hzl : (z : Int) + 1 ≤ 9223372036854775807 := by omega
        clear el ep eq es hz hlen hyl hgy hc1 hc2 hsl
        go_upto_region 10 with fail
        rename_i hK
        have D : Frm (fun _ => False) w4 w4.drew := (Frm.refl _ _).drew
        refine wp_region_late 43 0 [] [[], [], [0, 1], [2], [3], [4], [5], [6], [7], [7, 8], [7, 9], [7, 10], [7, 11], [12], [12, 13], [12], [12, 15], [12, 16], [12, 17], [12, 14, 18], [12, 19], [12, 20], [12], [12, 21, 22], [7, 12, 23], [7, 24], [25], [25, 26], [25], [25, 28], [25, 29], [25, 30], [25, 27, 31], [25, 32], [25, 33], [25], [25], [25, 35, 36], [25, 37], [25, 38], [25, 34, 39], [7, 25, 40], [7, 41]] ss10bM (ss10bR g off n cap k m x B6 g1 of1 z c1 p1 q1) (by kernel_rfl) rfl rfl rfl (by kernel_rfl) (by kernel_rfl) (by kernel_rfl) (by kernel_rfl) rfl (by kernel_rfl) (by kernel_rfl) (by kernel_rfl) (by kernel_rfl) (fun val => ?_) ?_
        · try dsimp only
          refine RelO.next (k' := 1) rfl (fun W gW hF => ?_) ?_
          focus
            refine OpOK.val (u := .slice (some ⟨g, off, none⟩) n cap) (by rfl) ?_ (fun W' _ => rfl)
            try simp only [tupAt]
            first | (go_simp; done) | (go_simp; with_reducible rfl) | (go_simp; rfl)
          try simp only [Act.put, List.setIfInBounds_toArray, List.set_cons_zero, List.set_cons_succ]
          refine RelO.next (k' := 2) rfl (fun W gW hF => ?_) ?_
          focus
            refine OpOK.val (u := .int .i64 (k : Int)) (by rfl) ?_ (fun W' _ => rfl)
            try simp only [tupAt]
            first | (go_simp; done) | (go_simp; with_reducible rfl) | (go_simp; rfl)
          try simp only [Act.put, List.setIfInBounds_toArray, List.set_cons_zero, List.set_cons_succ]
          refine RelO.next (k' := 3) rfl (fun W gW hF => ?_) ?_
          focus
            obtain ⟨h0, h1, _⟩ := hF
            have e0 : val 0 = .slice (some ⟨g, off, none⟩) n cap := h0 _ (Frm.refl _ W)
            have e1 : val 1 = .int .i64 (k : Int) := h1 _ (Frm.refl _ W)
            try simp only [e1]
            try simp only [e0]
            try simp only [tupAt]
            refine OpOK.val (u := .pointer (some ⟨g, off + k * 5, none⟩)) (by rfl) ?_ (fun W' _ => rfl)
            try simp only [e1]
            try simp only [e0]
            try simp only [tupAt]
            first | (go_simp; done) | (go_simp; with_reducible rfl) | (go_simp; rfl)
          try simp only [Act.put, List.setIfInBounds_toArray, List.set_cons_zero, List.set_cons_succ]
          refine RelO.next (k' := 4) rfl (fun W gW hF => ?_) ?_
          focus
            obtain ⟨h2, _⟩ := hF
            have e2 : val 2 = .pointer (some ⟨g, off + k * 5, none⟩) := h2 _ (Frm.refl _ W)
            try simp only [e2]
            try simp only [tupAt]
            refine OpOK.val (u := .pointer (some ⟨g, off + k * 5, none⟩)) (by rfl) ?_ (fun W' _ => rfl)
            try simp only [e2]
            try simp only [tupAt]
            first | (go_simp; done) | (go_simp; with_reducible rfl) | (go_simp; rfl)
          try simp only [Act.put, List.setIfInBounds_toArray, List.set_cons_zero, List.set_cons_succ]
          refine RelO.next (k' := 5) rfl (fun W gW hF => ?_) ?_
          focus
            obtain ⟨h3, _⟩ := hF
            have e3 : val 3 = .pointer (some ⟨g, off + k * 5, none⟩) := h3 _ (Frm.refl _ W)
            try simp only [e3]
            try simp only [tupAt]
            obtain ⟨x0, x1, x2, x3, x4⟩ := HXC.out W (D.trans gW)
            have a3 := Try.isAgg5
            have z3 := Try.sizeOf5
            exact OpOK.val (u := .int .u8 (x.k : Int)) (by rfl) (by first | (go_simp; done) | (go_simp; with_reducible rfl) | (go_simp; rfl)) (fun W' _ => rfl)
          try simp only [Act.put, List.setIfInBounds_toArray, List.set_cons_zero, List.set_cons_succ]
          refine RelO.next (k' := 6) rfl (fun W gW hF => ?_) ?_
          focus
            obtain ⟨h4, _⟩ := hF
            have e4 : val 4 = .int .u8 (x.k : Int) := h4 _ (Frm.refl _ W)
            try simp only [e4]
            try simp only [tupAt]
            have hm5 := HMT.out
            exact OpOK.val (u := .int .u8 (m : Int)) (by rfl) (by first | (go_simp; done) | (go_simp; with_reducible rfl) | (go_simp; rfl)) (fun W' _ => rfl)
          try simp only [Act.put, List.setIfInBounds_toArray, List.set_cons_zero, List.set_cons_succ]
          refine RelO.next (k' := 7) rfl (fun W gW hF => ?_) ?_
          focus
            obtain ⟨h5, _⟩ := hF
            have e5 : val 5 = .int .u8 (m : Int) := h5 _ (Frm.refl _ W)
            try simp only [e5]
            try simp only [tupAt]
            have hm5 := HML.out
            exact OpOK.val (u := .bool true) (by rfl) (by first | (go_simp; done) | (go_simp; with_reducible rfl) | (go_simp; rfl)) (fun W' _ => rfl)
          try simp only [Act.put, List.setIfInBounds_toArray, List.set_cons_zero, List.set_cons_succ]
          refine RelO.next (k' := 8) rfl (fun W gW hF => ?_) ?_
          focus
            obtain ⟨h6, _⟩ := hF
            have e6 : val 6 = .bool true := h6 _ (Frm.refl _ W)
            try simp only [e6]
            try simp only [tupAt]
            refine OpOK.val (u := .bool true) (by rfl) ?_ (fun W' _ => rfl)
            try simp only [e6]
            try simp only [tupAt]
            first | (go_simp; done) | (go_simp; with_reducible rfl) | (go_simp; rfl)
          try simp only [Act.put, List.setIfInBounds_toArray, List.set_cons_zero, List.set_cons_succ]
          refine RelO.next (k' := 9) rfl (fun W gW hF => ?_) ?_
          focus
            obtain ⟨h7, _⟩ := hF
            have e7 : val 7 = .bool true := h7 _ (Frm.refl _ W)
            try simp only [e7]
            try simp only [tupAt]
            refine OpOK.val (u := .pointer (some ⟨B6, 8, none⟩)) (by rfl) ?_ (fun W' _ => rfl)
            try simp only [e7]
            try simp only [tupAt]
            first | (go_simp; done) | (go_simp; with_reducible rfl) | (go_simp; rfl)
          try simp only [Act.put, List.setIfInBounds_toArray, List.set_cons_zero, List.set_cons_succ]
          refine RelO.next (k' := 10) rfl (fun W gW hF => ?_) ?_
          focus
            obtain ⟨h7, h8, _⟩ := hF
            have e7 : val 7 = .bool true := h7 _ (Frm.refl _ W)
            have e8 : val 8 = .pointer (some ⟨B6, 8, none⟩) := h8 _ (Frm.refl _ W)
            try simp only [e8]
            try simp only [e7]
            try simp only [tupAt]
            have c8 := (H6.out W (D.trans gW)).1.cell 8 rfl
            rw [HV1e.out] at c8
            have a3 := Try.isAgg37
            have z3 := Try.sizeOf37
            exact OpOK.val (u := .slice (some ⟨g1, of1, none⟩) (z + 1) c1) (by rfl) (by first | (go_simp; done) | (go_simp; with_reducible rfl) | (go_simp; rfl)) (fun W' _ => rfl)
          try simp only [Act.put, List.setIfInBounds_toArray, List.set_cons_zero, List.set_cons_succ]
          refine RelO.next (k' := 11) rfl (fun W gW hF => ?_) ?_
          focus
            obtain ⟨h7, h9, _⟩ := hF
            have e7 : val 7 = .bool true := h7 _ (Frm.refl _ W)
            have e9 : val 9 = .slice (some ⟨g1, of1, none⟩) (z + 1) c1 := h9 _ (Frm.refl _ W)
            try simp only [e9]
            try simp only [e7]
            try simp only [tupAt]
            have hz := HZ.out
            exact OpOK.val (u := .int .i64 ((z : Int) + 1)) (by rfl) (by first | (go_simp; done) | (go_simp; with_reducible rfl) | (go_simp; rfl)) (fun W' _ => rfl)
          try simp only [Act.put, List.setIfInBounds_toArray, List.set_cons_zero, List.set_cons_succ]
          refine RelO.next (k' := 12) rfl (fun W gW hF => ?_) ?_
          focus
            obtain ⟨h7, h10, _⟩ := hF
            have e7 : val 7 = .bool true := h7 _ (Frm.refl _ W)
            have e10 : val 10 = .int .i64 ((z : Int) + 1) := h10 _ (Frm.refl _ W)
            try simp only [e10]
            try simp only [e7]
            try simp only [tupAt]
            have hz := HZ0.out
            exact OpOK.val (u := .bool false) (by rfl) (by first | (go_simp; done) | (go_simp; with_reducible rfl) | (go_simp; rfl)) (fun W' _ => rfl)
          try simp only [Act.put, List.setIfInBounds_toArray, List.set_cons_zero, List.set_cons_succ]
          refine RelO.next (k' := 13) rfl (fun W gW hF => ?_) ?_
          focus
            obtain ⟨h7, h11, _⟩ := hF
            have e7 : val 7 = .bool true := h7 _ (Frm.refl _ W)
            have e11 : val 11 = .bool false := h11 _ (Frm.refl _ W)
            try simp only [e11]
            try simp only [e7]
            try simp only [tupAt]
            refine OpOK.val (u := .bool false) (by rfl) ?_ (fun W' _ => rfl)
            try simp only [e11]
            try simp only [e7]
            try simp only [tupAt]
            first | (go_simp; done) | (go_simp; with_reducible rfl) | (go_simp; rfl)
          try simp only [Act.put, List.setIfInBounds_toArray, List.set_cons_zero, List.set_cons_succ]
          refine RelO.next (k' := 14) rfl (fun W gW hF => ?_) ?_
          focus
            obtain ⟨h12, _⟩ := hF
            have e12 : val 12 = .bool false := h12 _ (Frm.refl _ W)
            try simp only [e12]
            try simp only [tupAt]
            refine OpOK.val (u := .pointer (some ⟨B6, 8, none⟩)) (by rfl) ?_ (fun W' _ => rfl)
            try simp only [e12]
            try simp only [tupAt]
            first | (go_simp; done) | (go_simp; with_reducible rfl) | (go_simp; rfl)
          try simp only [Act.put, List.setIfInBounds_toArray, List.set_cons_zero, List.set_cons_succ]
          refine RelO.next (k' := 15) rfl (fun W gW hF => ?_) ?_
          focus
            obtain ⟨h12, h13, _⟩ := hF
            have e12 : val 12 = .bool false := h12 _ (Frm.refl _ W)
            have e13 : val 13 = .pointer (some ⟨B6, 8, none⟩) := h13 _ (Frm.refl _ W)
            try simp only [e13]
            try simp only [e12]
            try simp only [tupAt]
            have c8 := (H6.out W (D.trans gW)).1.cell 8 rfl
            rw [HV1e.out] at c8
            have a3 := Try.isAgg37
            have z3 := Try.sizeOf37
            exact OpOK.val (u := .slice (some ⟨g1, of1, none⟩) (z + 1) c1) (by rfl) (by first | (go_simp; done) | (go_simp; with_reducible rfl) | (go_simp; rfl)) (fun W' _ => rfl)
          try simp only [Act.put, List.setIfInBounds_toArray, List.set_cons_zero, List.set_cons_succ]
          refine RelO.next (k' := 16) rfl (fun W gW hF => ?_) ?_
          focus
            obtain ⟨h12, _⟩ := hF
            have e12 : val 12 = .bool false := h12 _ (Frm.refl _ W)
            try simp only [e12]
            try simp only [tupAt]
            refine OpOK.val (u := .pointer (some ⟨B6, 8, none⟩)) (by rfl) ?_ (fun W' _ => rfl)
            try simp only [e12]
            try simp only [tupAt]
            first | (go_simp; done) | (go_simp; with_reducible rfl) | (go_simp; rfl)
          try simp only [Act.put, List.setIfInBounds_toArray, List.set_cons_zero, List.set_cons_succ]
          refine RelO.next (k' := 17) rfl (fun W gW hF => ?_) ?_
          focus
            obtain ⟨h12, h15, _⟩ := hF
            have e12 : val 12 = .bool false := h12 _ (Frm.refl _ W)
            have e15 : val 15 = .pointer (some ⟨B6, 8, none⟩) := h15 _ (Frm.refl _ W)
            try simp only [e15]
            try simp only [e12]
            try simp only [tupAt]
            have c8 := (H6.out W (D.trans gW)).1.cell 8 rfl
            rw [HV1e.out] at c8
            have a3 := Try.isAgg37
            have z3 := Try.sizeOf37
            exact OpOK.val (u := .slice (some ⟨g1, of1, none⟩) (z + 1) c1) (by rfl) (by first | (go_simp; done) | (go_simp; with_reducible rfl) | (go_simp; rfl)) (fun W' _ => rfl)
          try simp only [Act.put, List.setIfInBounds_toArray, List.set_cons_zero, List.set_cons_succ]
          refine RelO.next (k' := 18) rfl (fun W gW hF => ?_) ?_
          focus
            obtain ⟨h12, h16, _⟩ := hF
            have e12 : val 12 = .bool false := h12 _ (Frm.refl _ W)
            have e16 : val 16 = .slice (some ⟨g1, of1, none⟩) (z + 1) c1 := h16 _ (Frm.refl _ W)
            try simp only [e16]
            try simp only [e12]
            try simp only [tupAt]
            have hz := HZ.out
            exact OpOK.val (u := .int .i64 ((z : Int) + 1)) (by rfl) (by first | (go_simp; done) | (go_simp; with_reducible rfl) | (go_simp; rfl)) (fun W' _ => rfl)
          try simp only [Act.put, List.setIfInBounds_toArray, List.set_cons_zero, List.set_cons_succ]
          refine RelO.next (k' := 19) rfl (fun W gW hF => ?_) ?_
          focus
            obtain ⟨h12, h17, _⟩ := hF
            have e12 : val 12 = .bool false := h12 _ (Frm.refl _ W)
            have e17 : val 17 = .int .i64 ((z : Int) + 1) := h17 _ (Frm.refl _ W)
            try simp only [e17]
            try simp only [e12]
            try simp only [tupAt]
            have hz := HZ1.out
            exact OpOK.val (u := .int .i64 (z : Int)) (by rfl) (by first | (go_simp; done) | (go_simp; with_reducible rfl) | (go_simp; rfl)) (fun W' _ => rfl)
          try simp only [Act.put, List.setIfInBounds_toArray, List.set_cons_zero, List.set_cons_succ]
          refine RelO.next (k' := 20) rfl (fun W gW hF => ?_) ?_
          focus
            obtain ⟨h12, h14, h18, _⟩ := hF
            have e12 : val 12 = .bool false := h12 _ (Frm.refl _ W)
            have e14 : val 14 = .slice (some ⟨g1, of1, none⟩) (z + 1) c1 := h14 _ (Frm.refl _ W)
            have e18 : val 18 = .int .i64 (z : Int) := h18 _ (Frm.refl _ W)
            try simp only [e18]
            try simp only [e14]
            try simp only [e12]
            try simp only [tupAt]
            have hz1 := HZ2.out.1
            have hz2 := HZ2.out.2
            exact OpOK.val (u := .pointer (some ⟨g1, of1 + z * 3, none⟩)) (by rfl) (by first | (go_simp; done) | (go_simp; with_reducible rfl) | (go_simp; rfl)) (fun W' _ => rfl)
          try simp only [Act.put, List.setIfInBounds_toArray, List.set_cons_zero, List.set_cons_succ]
          refine RelO.next (k' := 21) rfl (fun W gW hF => ?_) ?_
          focus
            obtain ⟨h12, h19, _⟩ := hF
            have e12 : val 12 = .bool false := h12 _ (Frm.refl _ W)
            have e19 : val 19 = .pointer (some ⟨g1, of1 + z * 3, none⟩) := h19 _ (Frm.refl _ W)
            try simp only [e19]
            try simp only [e12]
            try simp only [tupAt]
            refine OpOK.val (u := .pointer (some ⟨g1, of1 + z * 3, none⟩)) (by rfl) ?_ (fun W' _ => rfl)
            try simp only [e19]
            try simp only [e12]
            try simp only [tupAt]
            first | (go_simp; done) | (go_simp; with_reducible rfl) | (go_simp; rfl)
          try simp only [Act.put, List.setIfInBounds_toArray, List.set_cons_zero, List.set_cons_succ]
          refine RelO.next (k' := 22) rfl (fun W gW hF => ?_) ?_
          focus
            obtain ⟨h12, h20, _⟩ := hF
            have e12 : val 12 = .bool false := h12 _ (Frm.refl _ W)
            have e20 : val 20 = .pointer (some ⟨g1, of1 + z * 3, none⟩) := h20 _ (Frm.refl _ W)
            try simp only [e20]
            try simp only [e12]
            try simp only [tupAt]
            obtain ⟨x0, x1, x2⟩ := HY.out W (D.trans gW)
            exact OpOK.val (u := .agg (dv p1 q1)) (by rfl) (by first | (go_simp; done) | (go_simp; with_reducible rfl) | (go_simp; rfl)) (fun W' _ => rfl)
          try simp only [Act.put, List.setIfInBounds_toArray, List.set_cons_zero, List.set_cons_succ]
          refine RelO.next (k' := 23) rfl (fun W gW hF => ?_) ?_
          focus
            obtain ⟨h12, _⟩ := hF
            have e12 : val 12 = .bool false := h12 _ (Frm.refl _ W)
            try simp only [e12]
            try simp only [tupAt]
            exact OpOK.load (by rfl) _ rfl (by rfl) (load_dotB (H7.out W (D.trans gW))) (fun W' _ => rfl)
          try simp only [Act.put, List.setIfInBounds_toArray, List.set_cons_zero, List.set_cons_succ]
          refine RelO.next (k' := 24) rfl (fun W gW hF => ?_) ?_
          focus
            obtain ⟨h12, h21, h22, _⟩ := hF
            have e12 : val 12 = .bool false := h12 _ (Frm.refl _ W)
            have e21 : val 21 = .agg (dv p1 q1) := h21 _ (Frm.refl _ W)
            have e22 : val 22 = .agg (dv p1 q1) := h22 _ (Frm.refl _ W)
            try simp only [e22]
            try simp only [e21]
            try simp only [e12]
            try simp only [tupAt]
            have E := HEQ.out
            exact OpOK.val (u := .bool false) (by rfl) (by first | (go_simp; done) | (go_simp; with_reducible rfl) | (go_simp; rfl)) (fun W' _ => rfl)
          try simp only [Act.put, List.setIfInBounds_toArray, List.set_cons_zero, List.set_cons_succ]
          refine RelO.next (k' := 25) rfl (fun W gW hF => ?_) ?_
          focus
            obtain ⟨h7, h12, h23, _⟩ := hF
            have e7 : val 7 = .bool true := h7 _ (Frm.refl _ W)
            have e12 : val 12 = .bool false := h12 _ (Frm.refl _ W)
            have e23 : val 23 = .bool false := h23 _ (Frm.refl _ W)
            try simp only [e23]
            try simp only [e12]
            try simp only [e7]
            try simp only [tupAt]
            refine OpOK.val (u := .bool false) (by rfl) ?_ (fun W' _ => rfl)
            try simp only [e23]
            try simp only [e12]
            try simp only [e7]
            try simp only [tupAt]
            first | (go_simp; done) | (go_simp; with_reducible rfl) | (go_simp; rfl)
          try simp only [Act.put, List.setIfInBounds_toArray, List.set_cons_zero, List.set_cons_succ]
          refine RelO.next (k' := 26) rfl (fun W gW hF => ?_) ?_
          focus
            obtain ⟨h7, h24, _⟩ := hF
            have e7 : val 7 = .bool true := h7 _ (Frm.refl _ W)
            have e24 : val 24 = .bool false := h24 _ (Frm.refl _ W)
            try simp only [e24]
            try simp only [e7]
            try simp only [tupAt]
            refine OpOK.val (u := .bool false) (by rfl) ?_ (fun W' _ => rfl)
            try simp only [e24]
            try simp only [e7]
            try simp only [tupAt]
            first | (go_simp; done) | (go_simp; with_reducible rfl) | (go_simp; rfl)
          try simp only [Act.put, List.setIfInBounds_toArray, List.set_cons_zero, List.set_cons_succ]
          refine RelO.next (k' := 27) rfl (fun W gW hF => ?_) ?_
          focus
            obtain ⟨h25, _⟩ := hF
            have e25 : val 25 = .bool false := h25 _ (Frm.refl _ W)
            try simp only [e25]
            try simp only [tupAt]
            refine OpOK.val (u := .pointer (some ⟨B6, 8, none⟩)) (by rfl) ?_ (fun W' _ => rfl)
            try simp only [e25]
            try simp only [tupAt]
            first | (go_simp; done) | (go_simp; with_reducible rfl) | (go_simp; rfl)
          try simp only [Act.put, List.setIfInBounds_toArray, List.set_cons_zero, List.set_cons_succ]
          refine RelO.next (k' := 28) rfl (fun W gW hF => ?_) ?_
          focus
            obtain ⟨h25, h26, _⟩ := hF
            have e25 : val 25 = .bool false := h25 _ (Frm.refl _ W)
            have e26 : val 26 = .pointer (some ⟨B6, 8, none⟩) := h26 _ (Frm.refl _ W)
            try simp only [e26]
            try simp only [e25]
            try simp only [tupAt]
            have c8 := (H6.out W (D.trans gW)).1.cell 8 rfl
            rw [HV1e.out] at c8
            have a3 := Try.isAgg37
            have z3 := Try.sizeOf37
            exact OpOK.val (u := .slice (some ⟨g1, of1, none⟩) (z + 1) c1) (by rfl) (by first | (go_simp; done) | (go_simp; with_reducible rfl) | (go_simp; rfl)) (fun W' _ => rfl)
          try simp only [Act.put, List.setIfInBounds_toArray, List.set_cons_zero, List.set_cons_succ]
          refine RelO.next (k' := 29) rfl (fun W gW hF => ?_) ?_
          focus
            obtain ⟨h25, _⟩ := hF
            have e25 : val 25 = .bool false := h25 _ (Frm.refl _ W)
            try simp only [e25]
            try simp only [tupAt]
            refine OpOK.val (u := .pointer (some ⟨B6, 8, none⟩)) (by rfl) ?_ (fun W' _ => rfl)
            try simp only [e25]
            try simp only [tupAt]
            first | (go_simp; done) | (go_simp; with_reducible rfl) | (go_simp; rfl)
          try simp only [Act.put, List.setIfInBounds_toArray, List.set_cons_zero, List.set_cons_succ]
          refine RelO.next (k' := 30) rfl (fun W gW hF => ?_) ?_
          focus
            obtain ⟨h25, h28, _⟩ := hF
            have e25 : val 25 = .bool false := h25 _ (Frm.refl _ W)
            have e28 : val 28 = .pointer (some ⟨B6, 8, none⟩) := h28 _ (Frm.refl _ W)
            try simp only [e28]
            try simp only [e25]
            try simp only [tupAt]
            have c8 := (H6.out W (D.trans gW)).1.cell 8 rfl
            rw [HV1e.out] at c8
            have a3 := Try.isAgg37
            have z3 := Try.sizeOf37
            exact OpOK.val (u := .slice (some ⟨g1, of1, none⟩) (z + 1) c1) (by rfl) (by first | (go_simp; done) | (go_simp; with_reducible rfl) | (go_simp; rfl)) (fun W' _ => rfl)
          try simp only [Act.put, List.setIfInBounds_toArray, List.set_cons_zero, List.set_cons_succ]
          refine RelO.next (k' := 31) rfl (fun W gW hF => ?_) ?_
          focus
            obtain ⟨h25, h29, _⟩ := hF
            have e25 : val 25 = .bool false := h25 _ (Frm.refl _ W)
            have e29 : val 29 = .slice (some ⟨g1, of1, none⟩) (z + 1) c1 := h29 _ (Frm.refl _ W)
            try simp only [e29]
            try simp only [e25]
            try simp only [tupAt]
            have hz := HZ.out
            exact OpOK.val (u := .int .i64 ((z : Int) + 1)) (by rfl) (by first | (go_simp; done) | (go_simp; with_reducible rfl) | (go_simp; rfl)) (fun W' _ => rfl)
          try simp only [Act.put, List.setIfInBounds_toArray, List.set_cons_zero, List.set_cons_succ]
          refine RelO.next (k' := 32) rfl (fun W gW hF => ?_) ?_
          focus
            obtain ⟨h25, h30, _⟩ := hF
            have e25 : val 25 = .bool false := h25 _ (Frm.refl _ W)
            have e30 : val 30 = .int .i64 ((z : Int) + 1) := h30 _ (Frm.refl _ W)
            try simp only [e30]
            try simp only [e25]
            try simp only [tupAt]
            have hz := HZ1.out
            exact OpOK.val (u := .int .i64 (z : Int)) (by rfl) (by first | (go_simp; done) | (go_simp; with_reducible rfl) | (go_simp; rfl)) (fun W' _ => rfl)
          try simp only [Act.put, List.setIfInBounds_toArray, List.set_cons_zero, List.set_cons_succ]
          refine RelO.next (k' := 33) rfl (fun W gW hF => ?_) ?_
          focus
            obtain ⟨h25, h27, h31, _⟩ := hF
            have e25 : val 25 = .bool false := h25 _ (Frm.refl _ W)
            have e27 : val 27 = .slice (some ⟨g1, of1, none⟩) (z + 1) c1 := h27 _ (Frm.refl _ W)
            have e31 : val 31 = .int .i64 (z : Int) := h31 _ (Frm.refl _ W)
            try simp only [e31]
            try simp only [e27]
            try simp only [e25]
            try simp only [tupAt]
            have hz1 := HZ2.out.1
            have hz2 := HZ2.out.2
            exact OpOK.val (u := .pointer (some ⟨g1, of1 + z * 3, none⟩)) (by rfl) (by first | (go_simp; done) | (go_simp; with_reducible rfl) | (go_simp; rfl)) (fun W' _ => rfl)
          try simp only [Act.put, List.setIfInBounds_toArray, List.set_cons_zero, List.set_cons_succ]
          refine RelO.next (k' := 34) rfl (fun W gW hF => ?_) ?_
          focus
            obtain ⟨h25, h32, _⟩ := hF
            have e25 : val 25 = .bool false := h25 _ (Frm.refl _ W)
            have e32 : val 32 = .pointer (some ⟨g1, of1 + z * 3, none⟩) := h32 _ (Frm.refl _ W)
            try simp only [e32]
            try simp only [e25]
            try simp only [tupAt]
            refine OpOK.val (u := .pointer (some ⟨g1, of1 + z * 3 + 2, none⟩)) (by rfl) ?_ (fun W' _ => rfl)
            try simp only [e32]
            try simp only [e25]
            try simp only [tupAt]
            first | (go_simp; done) | (go_simp; with_reducible rfl) | (go_simp; rfl)
          try simp only [Act.put, List.setIfInBounds_toArray, List.set_cons_zero, List.set_cons_succ]
          refine RelO.next (k' := 35) rfl (fun W gW hF => ?_) ?_
          focus
            obtain ⟨h25, h33, _⟩ := hF
            have e25 : val 25 = .bool false := h25 _ (Frm.refl _ W)
            have e33 : val 33 = .pointer (some ⟨g1, of1 + z * 3 + 2, none⟩) := h33 _ (Frm.refl _ W)
            try simp only [e33]
            try simp only [e25]
            try simp only [tupAt]
            obtain ⟨x0, x1, x2⟩ := HY.out W (D.trans gW)
            exact OpOK.val (u := .string (bs x.s)) (by rfl) (by first | (go_simp; done) | (go_simp; with_reducible rfl) | (go_simp; rfl)) (fun W' _ => rfl)
          try simp only [Act.put, List.setIfInBounds_toArray, List.set_cons_zero, List.set_cons_succ]
          refine RelO.next (k' := 36) rfl (fun W gW hF => ?_) ?_
          focus
            obtain ⟨h25, _⟩ := hF
            have e25 : val 25 = .bool false := h25 _ (Frm.refl _ W)
            try simp only [e25]
            try simp only [tupAt]
            refine OpOK.val (u := .slice (some ⟨g, off, none⟩) n cap) (by rfl) ?_ (fun W' _ => rfl)
            try simp only [e25]
            try simp only [tupAt]
            first | (go_simp; done) | (go_simp; with_reducible rfl) | (go_simp; rfl)
          try simp only [Act.put, List.setIfInBounds_toArray, List.set_cons_zero, List.set_cons_succ]
          refine RelO.next (k' := 37) rfl (fun W gW hF => ?_) ?_
          focus
            obtain ⟨h25, _⟩ := hF
            have e25 : val 25 = .bool false := h25 _ (Frm.refl _ W)
            try simp only [e25]
            try simp only [tupAt]
            refine OpOK.val (u := .int .i64 (k : Int)) (by rfl) ?_ (fun W' _ => rfl)
            try simp only [e25]
            try simp only [tupAt]
            first | (go_simp; done) | (go_simp; with_reducible rfl) | (go_simp; rfl)
          try simp only [Act.put, List.setIfInBounds_toArray, List.set_cons_zero, List.set_cons_succ]
          refine RelO.next (k' := 38) rfl (fun W gW hF => ?_) ?_
          focus
            obtain ⟨h25, h35, h36, _⟩ := hF
            have e25 : val 25 = .bool false := h25 _ (Frm.refl _ W)
            have e35 : val 35 = .slice (some ⟨g, off, none⟩) n cap := h35 _ (Frm.refl _ W)
            have e36 : val 36 = .int .i64 (k : Int) := h36 _ (Frm.refl _ W)
            try simp only [e36]
            try simp only [e35]
            try simp only [e25]
            try simp only [tupAt]
            refine OpOK.val (u := .pointer (some ⟨g, off + k * 5, none⟩)) (by rfl) ?_ (fun W' _ => rfl)
            try simp only [e36]
            try simp only [e35]
            try simp only [e25]
            try simp only [tupAt]
            first | (go_simp; done) | (go_simp; with_reducible rfl) | (go_simp; rfl)
          try simp only [Act.put, List.setIfInBounds_toArray, List.set_cons_zero, List.set_cons_succ]
          refine RelO.next (k' := 39) rfl (fun W gW hF => ?_) ?_
          focus
            obtain ⟨h25, h37, _⟩ := hF
            have e25 : val 25 = .bool false := h25 _ (Frm.refl _ W)
            have e37 : val 37 = .pointer (some ⟨g, off + k * 5, none⟩) := h37 _ (Frm.refl _ W)
            try simp only [e37]
            try simp only [e25]
            try simp only [tupAt]
            refine OpOK.val (u := .pointer (some ⟨g, off + k * 5 + 4, none⟩)) (by rfl) ?_ (fun W' _ => rfl)
            try simp only [e37]
            try simp only [e25]
            try simp only [tupAt]
            first | (go_simp; done) | (go_simp; with_reducible rfl) | (go_simp; rfl)
          try simp only [Act.put, List.setIfInBounds_toArray, List.set_cons_zero, List.set_cons_succ]
          refine RelO.next (k' := 40) rfl (fun W gW hF => ?_) ?_
          focus
            obtain ⟨h25, h38, _⟩ := hF
            have e25 : val 25 = .bool false := h25 _ (Frm.refl _ W)
            have e38 : val 38 = .pointer (some ⟨g, off + k * 5 + 4, none⟩) := h38 _ (Frm.refl _ W)
            try simp only [e38]
            try simp only [e25]
            try simp only [tupAt]
            obtain ⟨x0, x1, x2, x3, x4⟩ := HXC.out W (D.trans gW)
            have a3 := Try.isAgg9
            have z3 := Try.sizeOf9
            exact OpOK.val (u := .string (bs x.s)) (by rfl) (by first | (go_simp; done) | (go_simp; with_reducible rfl) | (go_simp; rfl)) (fun W' _ => rfl)
          try simp only [Act.put, List.setIfInBounds_toArray, List.set_cons_zero, List.set_cons_succ]
          refine RelO.next (k' := 41) rfl (fun W gW hF => ?_) ?_
          focus
            obtain ⟨h25, h34, h39, _⟩ := hF
            have e25 : val 25 = .bool false := h25 _ (Frm.refl _ W)
            have e34 : val 34 = .string (bs x.s) := h34 _ (Frm.refl _ W)
            have e39 : val 39 = .string (bs x.s) := h39 _ (Frm.refl _ W)
            try simp only [e39]
            try simp only [e34]
            try simp only [e25]
            try simp only [tupAt]
            refine OpOK.val (u := .bool false) (by rfl) ?_ (fun W' _ => rfl)
            try simp only [e39]
            try simp only [e34]
            try simp only [e25]
            try simp only [tupAt]
            first | (go_simp; done) | (go_simp; with_reducible rfl) | (go_simp; rfl)
          try simp only [Act.put, List.setIfInBounds_toArray, List.set_cons_zero, List.set_cons_succ]
          refine RelO.next (k' := 42) rfl (fun W gW hF => ?_) ?_
          focus
            obtain ⟨h7, h25, h40, _⟩ := hF
            have e7 : val 7 = .bool true := h7 _ (Frm.refl _ W)
            have e25 : val 25 = .bool false := h25 _ (Frm.refl _ W)
            have e40 : val 40 = .bool false := h40 _ (Frm.refl _ W)
            try simp only [e40]
            try simp only [e25]
            try simp only [e7]
            try simp only [tupAt]
            refine OpOK.val (u := .bool false) (by rfl) ?_ (fun W' _ => rfl)
            try simp only [e40]
            try simp only [e25]
            try simp only [e7]
            try simp only [tupAt]
            first | (go_simp; done) | (go_simp; with_reducible rfl) | (go_simp; rfl)
          try simp only [Act.put, List.setIfInBounds_toArray, List.set_cons_zero, List.set_cons_succ]
          refine RelO.next (k' := 43) rfl (fun W gW hF => ?_) ?_
          focus
            obtain ⟨h7, h41, _⟩ := hF
            have e7 : val 7 = .bool true := h7 _ (Frm.refl _ W)
            have e41 : val 41 = .bool false := h41 _ (Frm.refl _ W)
            try simp only [e41]
            try simp only [e7]
            try simp only [tupAt]
            refine OpOK.val (u := .bool false) (by rfl) ?_ (fun W' _ => rfl)
            try simp only [e41]
            try simp only [e7]
            try simp only [tupAt]
            first | (go_simp; done) | (go_simp; with_reducible rfl) | (go_simp; rfl)
          try simp only [Act.put, List.setIfInBounds_toArray, List.set_cons_zero, List.set_cons_succ]
          exact RelO.nil
        intro val w5 gW hF
        obtain ⟨h0, h1, h2, h3, h4, h5, h6, h7, h8, h9, h10, h11, h12, h13, h14, h15, h16, h17, h18, h19, h20, h21, h22, h23, h24, h25, h26, h27, h28, h29, h30, h31, h32, h33, h34, h35, h36, h37, h38, h39, h40, h41, h42, hT⟩ := hF
        have e0 : val 0 = .slice (some ⟨g, off, none⟩) n cap := h0 _ (Frm.refl _ w5)
        have e1 : val 1 = .int .i64 (k : Int) := h1 _ (Frm.refl _ w5)
        have e2 : val 2 = .pointer (some ⟨g, off + k * 5, none⟩) := h2 _ (Frm.refl _ w5)
        have e3 : val 3 = .pointer (some ⟨g, off + k * 5, none⟩) := h3 _ (Frm.refl _ w5)
        have e4 : val 4 = .int .u8 (x.k : Int) := h4 _ (Frm.refl _ w5)
        have e5 : val 5 = .int .u8 (m : Int) := h5 _ (Frm.refl _ w5)
        have e6 : val 6 = .bool true := h6 _ (Frm.refl _ w5)
        have e7 : val 7 = .bool true := h7 _ (Frm.refl _ w5)
        have e8 : val 8 = .pointer (some ⟨B6, 8, none⟩) := h8 _ (Frm.refl _ w5)
        have e9 : val 9 = .slice (some ⟨g1, of1, none⟩) (z + 1) c1 := h9 _ (Frm.refl _ w5)
        have e10 : val 10 = .int .i64 ((z : Int) + 1) := h10 _ (Frm.refl _ w5)
        have e11 : val 11 = .bool false := h11 _ (Frm.refl _ w5)
        have e12 : val 12 = .bool false := h12 _ (Frm.refl _ w5)
        have e13 : val 13 = .pointer (some ⟨B6, 8, none⟩) := h13 _ (Frm.refl _ w5)
        have e14 : val 14 = .slice (some ⟨g1, of1, none⟩) (z + 1) c1 := h14 _ (Frm.refl _ w5)
        have e15 : val 15 = .pointer (some ⟨B6, 8, none⟩) := h15 _ (Frm.refl _ w5)
        have e16 : val 16 = .slice (some ⟨g1, of1, none⟩) (z + 1) c1 := h16 _ (Frm.refl _ w5)
        have e17 : val 17 = .int .i64 ((z : Int) + 1) := h17 _ (Frm.refl _ w5)
        have e18 : val 18 = .int .i64 (z : Int) := h18 _ (Frm.refl _ w5)
        have e19 : val 19 = .pointer (some ⟨g1, of1 + z * 3, none⟩) := h19 _ (Frm.refl _ w5)
        have e20 : val 20 = .pointer (some ⟨g1, of1 + z * 3, none⟩) := h20 _ (Frm.refl _ w5)
        have e21 : val 21 = .agg (dv p1 q1) := h21 _ (Frm.refl _ w5)
        have e22 : val 22 = .agg (dv p1 q1) := h22 _ (Frm.refl _ w5)
        have e23 : val 23 = .bool false := h23 _ (Frm.refl _ w5)
        have e24 : val 24 = .bool false := h24 _ (Frm.refl _ w5)
        have e25 : val 25 = .bool false := h25 _ (Frm.refl _ w5)
        have e26 : val 26 = .pointer (some ⟨B6, 8, none⟩) := h26 _ (Frm.refl _ w5)
        have e27 : val 27 = .slice (some ⟨g1, of1, none⟩) (z + 1) c1 := h27 _ (Frm.refl _ w5)
        have e28 : val 28 = .pointer (some ⟨B6, 8, none⟩) := h28 _ (Frm.refl _ w5)
        have e29 : val 29 = .slice (some ⟨g1, of1, none⟩) (z + 1) c1 := h29 _ (Frm.refl _ w5)
        have e30 : val 30 = .int .i64 ((z : Int) + 1) := h30 _ (Frm.refl _ w5)
        have e31 : val 31 = .int .i64 (z : Int) := h31 _ (Frm.refl _ w5)
        have e32 : val 32 = .pointer (some ⟨g1, of1 + z * 3, none⟩) := h32 _ (Frm.refl _ w5)
        have e33 : val 33 = .pointer (some ⟨g1, of1 + z * 3 + 2, none⟩) := h33 _ (Frm.refl _ w5)
        have e34 : val 34 = .string (bs x.s) := h34 _ (Frm.refl _ w5)
        have e35 : val 35 = .slice (some ⟨g, off, none⟩) n cap := h35 _ (Frm.refl _ w5)
        have e36 : val 36 = .int .i64 (k : Int) := h36 _ (Frm.refl _ w5)
        have e37 : val 37 = .pointer (some ⟨g, off + k * 5, none⟩) := h37 _ (Frm.refl _ w5)
        have e38 : val 38 = .pointer (some ⟨g, off + k * 5 + 4, none⟩) := h38 _ (Frm.refl _ w5)
        have e39 : val 39 = .string (bs x.s) := h39 _ (Frm.refl _ w5)
        have e40 : val 40 = .bool false := h40 _ (Frm.refl _ w5)
        have e41 : val 41 = .bool false := h41 _ (Frm.refl _ w5)
        have e42 : val 42 = .bool false := h42 _ (Frm.refl _ w5)
        clear hT h0 h1 h2 h3 h4 h5 h6 h7 h8 h9 h10 h11 h12 h13 h14 h15 h16 h17 h18 h19 h20 h21 h22 h23 h24 h25 h26 h27 h28 h29 h30 h31 h32 h33 h34 h35 h36 h37 h38 h39 h40 h41 h42
        simp only [aO, Act.put, List.setIfInBounds_toArray, List.set_cons_zero, List.set_cons_succ, Nat.reduceAdd]
        try simp only [e42]
        try simp only [e41]
        try simp only [e40]
        try simp only [e39]
        try simp only [e38]
        try simp only [e37]
        try simp only [e36]
        try simp only [e35]
        try simp only [e34]
        try simp only [e33]
        try simp only [e32]
        try simp only [e31]
        try simp only [e30]
        try simp only [e29]
        try simp only [e28]
        try simp only [e27]
        try simp only [e26]
        try simp only [e25]
        try simp only [e24]
        try simp only [e23]
        try simp only [e22]
        try simp only [e21]
        try simp only [e20]
        try simp only [e19]
        try simp only [e18]
        try simp only [e17]
        try simp only [e16]
        try simp only [e15]
        try simp only [e14]
        try simp only [e13]
        try simp only [e12]
        try simp only [e11]
        try simp only [e10]
        try simp only [e9]
        try simp only [e8]
        try simp only [e7]
        try simp only [e6]
        try simp only [e5]
        try simp only [e4]
        try simp only [e3]
        try simp only [e2]
        try simp only [e1]
        try simp only [e0]
        try simp only [tupAt]
        refine wpTail.doneN ?_
        refine hK _ _ ?_
        have g5 := D.trans gW
        clear gW D hK HEQ HZ HZ0 HZ1 HZ2 HY HML HMT hzl e0 e1 e2 e3 e4 e5 e6 e7 e8 e9 e10 e11 e12 e13 e14 e15 e16 e17 e18 e19 e20 e21 e22 e23 e24 e25 e26 e27 e28 e29 e30 e31 e32 e33 e34 e35 e36 e37 e38 e39 e40 e41 e42
        replace HJW := Hid.grow HJW g5
        replace H6 := Hid.grow H6 g5
        clear H7 HXC g5
        have lR := load_reg (H6.out w5 (Frm.refl _ w5)).1
        have HT := Lib.hid ((HJW.out w5 (Frm.refl _ w5)).all.there hr)
        have HON := Lib.hid (rg_oneS (H6.out w5 (Frm.refl _ w5)).2 f1)
        have HJ5 := Lib.hid ((HJW.out w5 (Frm.refl _ w5)).act hr (H6.out w5 (Frm.refl _ w5)).2 HN1.out HE1.out HAe.out)
        clear HJW H6 HN1 HE1 HO
        go_upto_region 13 with (first
          | ((with_reducible refine wpl_load rfl _ rfl ?_ lR ?_); (focus rfl))
          | ((with_reducible refine Go.wpList_store_mid rfl 39 _ _ rfl A (r * 9) (rgc f1 v1) ?_ ?_ ?_ ?_ ?_ ?_); (focus rfl); (focus rfl); (focus (exact HT.out)); (focus (show _ = some 9; kernel_rfl)); (focus (exact HON.out))))
        clear lR HT HON
        generalize w5.setCells A (r * 9) (rgc f1 v1).toList = w6 at *
        generalize setF F r f1 = F at HJ5
        generalize setF V r v1 = V at HJ5
        generalize setF L r l1 = L at HJ5
        go_upto_region 14 with fail
        go_loopw [10] (fun i wr => ∃ q : Nat, q ≤ 4 ∧ i = .int .i64 q ∧ Frm (fun _ => False) w6 wr) (fun i _ => 4 - (intOf i).toNat)
        case atStart => exact ⟨0, by omega, rfl, Frm.refl _ _⟩
        case round =>
          obtain ⟨q, hq, rfl, gq⟩ := hrel
          have HJ : Hid (∀ W, Frm (fun _ => False) wr W → JS w A W E' F V L) := Lib.hid fun W g => HJ5.out.keep (gq.trans g)
          by_cases hq4 : q < 4
          · have hqi : (q : Int) < 4 := by omega
            have hqi0 : (0 : Int) ≤ (q : Int) := by omega
            have HCK : Hid (chkS (F q) (L q) = 0) := Lib.hid (by unfold chkS; rw [HJ5.out.hist.ok q hq4]; rfl)
            cases hb : eq8 (F q) (F r)
            case true =>
              have HEB : Hid ((eq8 (F q) (F r) && decide (L q = L r)) = true) := Lib.hid (by rw [hb, HJ5.out.hist.same hq4 hr hb]; simp)
              have HEV : Hid (∀ W, (Op.equalIn 10000 24 (.agg (vv (F q))) (.agg (vv (F r)))).run Try.prog W = .ok true W) := Lib.hid fun W => by rw [run_eq_vec, hb]
              clear hb
              go_upto_region 16 with fail
              rename_i hK
              have D : Frm (fun _ => False) wr wr.drew := (Frm.refl _ _).drew
              refine wp_region_late 24 0 [] [[], [0], [1], [2], [3], [4], [5], [5, 6], [5, 7], [5, 8], [5], [5, 10], [5, 11], [5, 12], [5, 9, 13], [5], [5, 15], [5, 16], [5], [5, 18], [5, 19], [5, 17, 20], [5, 14, 21], [5, 22]] ss16tM (ss16tR A r q F V) (by kernel_rfl) rfl rfl rfl (by kernel_rfl) (by kernel_rfl) (by kernel_rfl) (by kernel_rfl) rfl (by kernel_rfl) (by kernel_rfl) (by kernel_rfl) (by kernel_rfl) (fun val => ?_) ?_
              · try dsimp only
                refine RelO.next (k' := 1) rfl (fun W gW hF => ?_) ?_
                focus
                  refine OpOK.val (u := .int .i64 (q : Int)) (by rfl) ?_ (fun W' _ => rfl)
                  try simp only [tupAt]
                  first | (go_simp; done) | (go_simp; with_reducible rfl) | (go_simp; rfl)
                try simp only [Act.put, List.setIfInBounds_toArray, List.set_cons_zero, List.set_cons_succ]
                refine RelO.next (k' := 2) rfl (fun W gW hF => ?_) ?_
                focus
                  obtain ⟨h0, _⟩ := hF
                  have e0 : val 0 = .int .i64 (q : Int) := h0 _ (Frm.refl _ W)
                  try simp only [e0]
                  try simp only [tupAt]
                  refine OpOK.val (u := .pointer (some ⟨A, q * 9, none⟩)) (by rfl) ?_ (fun W' _ => rfl)
                  try simp only [e0]
                  try simp only [tupAt]
                  first | (go_simp; done) | (go_simp; with_reducible rfl) | (go_simp; rfl)
                try simp only [Act.put, List.setIfInBounds_toArray, List.set_cons_zero, List.set_cons_succ]
                refine RelO.next (k' := 3) rfl (fun W gW hF => ?_) ?_
                focus
                  obtain ⟨h1, _⟩ := hF
                  have e1 : val 1 = .pointer (some ⟨A, q * 9, none⟩) := h1 _ (Frm.refl _ W)
                  try simp only [e1]
                  try simp only [tupAt]
                  exact OpOK.load (by rfl) _ rfl (by rfl) ((HJ.out W (D.trans gW)).all.load hq4) (fun W' _ => rfl)
                try simp only [Act.put, List.setIfInBounds_toArray, List.set_cons_zero, List.set_cons_succ]
                refine RelO.next (k' := 4) rfl (fun W gW hF => ?_) ?_
                focus
                  obtain ⟨h2, _⟩ := hF
                  have e2 : val 2 = rg (F q) (V q) := h2 _ (Frm.refl _ W)
                  try simp only [e2]
                  try simp only [tupAt]
                  refine OpOK.call (by rfl) ?_ ((check_any (F q) (V q) (L q) W ((HJ.out W (D.trans gW)).hist.fit q hq4) ((HJ.out W (D.trans gW)).sl q hq4) (by have := (HJ.out W (D.trans gW)).hist.few q hq4; omega)).mono ?_)
                  · first | (go_simp; done) | (go_simp; with_reducible rfl) | (go_simp; rfl)
                  · rintro e W1 ⟨he, g1⟩
                    rw [HCK.out] at he
                    subst he
                    exact ⟨_, rfl, g1, fun W2 _ => rfl⟩
                try simp only [Act.put, List.setIfInBounds_toArray, List.set_cons_zero, List.set_cons_succ]
                refine RelO.next (k' := 5) rfl (fun W gW hF => ?_) ?_
                focus
                  obtain ⟨h3, _⟩ := hF
                  have e3 : val 3 = .int .i64 0 := h3 _ (Frm.refl _ W)
                  try simp only [e3]
                  try simp only [tupAt]
                  refine OpOK.val (u := .bool false) (by rfl) ?_ (fun W' _ => rfl)
                  try simp only [e3]
                  try simp only [tupAt]
                  first | (go_simp; done) | (go_simp; with_reducible rfl) | (go_simp; rfl)
                try simp only [Act.put, List.setIfInBounds_toArray, List.set_cons_zero, List.set_cons_succ]
                refine RelO.next (k' := 6) rfl (fun W gW hF => ?_) ?_
                focus
                  obtain ⟨h4, _⟩ := hF
                  have e4 : val 4 = .bool false := h4 _ (Frm.refl _ W)
                  try simp only [e4]
                  try simp only [tupAt]
                  refine OpOK.val (u := .bool false) (by rfl) ?_ (fun W' _ => rfl)
                  try simp only [e4]
                  try simp only [tupAt]
                  first | (go_simp; done) | (go_simp; with_reducible rfl) | (go_simp; rfl)
                try simp only [Act.put, List.setIfInBounds_toArray, List.set_cons_zero, List.set_cons_succ]
                refine RelO.next (k' := 7) rfl (fun W gW hF => ?_) ?_
                focus
                  obtain ⟨h5, _⟩ := hF
                  have e5 : val 5 = .bool false := h5 _ (Frm.refl _ W)
                  try simp only [e5]
                  try simp only [tupAt]
                  refine OpOK.val (u := .int .i64 (q : Int)) (by rfl) ?_ (fun W' _ => rfl)
                  try simp only [e5]
                  try simp only [tupAt]
                  first | (go_simp; done) | (go_simp; with_reducible rfl) | (go_simp; rfl)
                try simp only [Act.put, List.setIfInBounds_toArray, List.set_cons_zero, List.set_cons_succ]
                refine RelO.next (k' := 8) rfl (fun W gW hF => ?_) ?_
                focus
                  obtain ⟨h5, h6, _⟩ := hF
                  have e5 : val 5 = .bool false := h5 _ (Frm.refl _ W)
                  have e6 : val 6 = .int .i64 (q : Int) := h6 _ (Frm.refl _ W)
                  try simp only [e6]
                  try simp only [e5]
                  try simp only [tupAt]
                  refine OpOK.val (u := .pointer (some ⟨A, q * 9, none⟩)) (by rfl) ?_ (fun W' _ => rfl)
                  try simp only [e6]
                  try simp only [e5]
                  try simp only [tupAt]
                  first | (go_simp; done) | (go_simp; with_reducible rfl) | (go_simp; rfl)
                try simp only [Act.put, List.setIfInBounds_toArray, List.set_cons_zero, List.set_cons_succ]
                refine RelO.next (k' := 9) rfl (fun W gW hF => ?_) ?_
                focus
                  obtain ⟨h5, h7, _⟩ := hF
                  have e5 : val 5 = .bool false := h5 _ (Frm.refl _ W)
                  have e7 : val 7 = .pointer (some ⟨A, q * 9, none⟩) := h7 _ (Frm.refl _ W)
                  try simp only [e7]
                  try simp only [e5]
                  try simp only [tupAt]
                  refine OpOK.val (u := .pointer (some ⟨A, q * 9, none⟩)) (by rfl) ?_ (fun W' _ => rfl)
                  try simp only [e7]
                  try simp only [e5]
                  try simp only [tupAt]
                  first | (go_simp; done) | (go_simp; with_reducible rfl) | (go_simp; rfl)
                try simp only [Act.put, List.setIfInBounds_toArray, List.set_cons_zero, List.set_cons_succ]
                refine RelO.next (k' := 10) rfl (fun W gW hF => ?_) ?_
                focus
                  obtain ⟨h5, h8, _⟩ := hF
                  have e5 : val 5 = .bool false := h5 _ (Frm.refl _ W)
                  have e8 : val 8 = .pointer (some ⟨A, q * 9, none⟩) := h8 _ (Frm.refl _ W)
                  try simp only [e8]
                  try simp only [e5]
                  try simp only [tupAt]
                  exact OpOK.load (by rfl) _ rfl (by rfl) ((HJ.out W (D.trans gW)).all.ctx hq4) (fun W' _ => rfl)
                try simp only [Act.put, List.setIfInBounds_toArray, List.set_cons_zero, List.set_cons_succ]
                refine RelO.next (k' := 11) rfl (fun W gW hF => ?_) ?_
                focus
                  obtain ⟨h5, _⟩ := hF
                  have e5 : val 5 = .bool false := h5 _ (Frm.refl _ W)
                  try simp only [e5]
                  try simp only [tupAt]
                  refine OpOK.val (u := .int .i64 (r : Int)) (by rfl) ?_ (fun W' _ => rfl)
                  try simp only [e5]
                  try simp only [tupAt]
                  first | (go_simp; done) | (go_simp; with_reducible rfl) | (go_simp; rfl)
                try simp only [Act.put, List.setIfInBounds_toArray, List.set_cons_zero, List.set_cons_succ]
                refine RelO.next (k' := 12) rfl (fun W gW hF => ?_) ?_
                focus
                  obtain ⟨h5, h10, _⟩ := hF
                  have e5 : val 5 = .bool false := h5 _ (Frm.refl _ W)
                  have e10 : val 10 = .int .i64 (r : Int) := h10 _ (Frm.refl _ W)
                  try simp only [e10]
                  try simp only [e5]
                  try simp only [tupAt]
                  refine OpOK.val (u := .pointer (some ⟨A, r * 9, none⟩)) (by rfl) ?_ (fun W' _ => rfl)
                  try simp only [e10]
                  try simp only [e5]
                  try simp only [tupAt]
                  first | (go_simp; done) | (go_simp; with_reducible rfl) | (go_simp; rfl)
                try simp only [Act.put, List.setIfInBounds_toArray, List.set_cons_zero, List.set_cons_succ]
                refine RelO.next (k' := 13) rfl (fun W gW hF => ?_) ?_
                focus
                  obtain ⟨h5, h11, _⟩ := hF
                  have e5 : val 5 = .bool false := h5 _ (Frm.refl _ W)
                  have e11 : val 11 = .pointer (some ⟨A, r * 9, none⟩) := h11 _ (Frm.refl _ W)
                  try simp only [e11]
                  try simp only [e5]
                  try simp only [tupAt]
                  refine OpOK.val (u := .pointer (some ⟨A, r * 9, none⟩)) (by rfl) ?_ (fun W' _ => rfl)
                  try simp only [e11]
                  try simp only [e5]
                  try simp only [tupAt]
                  first | (go_simp; done) | (go_simp; with_reducible rfl) | (go_simp; rfl)
                try simp only [Act.put, List.setIfInBounds_toArray, List.set_cons_zero, List.set_cons_succ]
                refine RelO.next (k' := 14) rfl (fun W gW hF => ?_) ?_
                focus
                  obtain ⟨h5, h12, _⟩ := hF
                  have e5 : val 5 = .bool false := h5 _ (Frm.refl _ W)
                  have e12 : val 12 = .pointer (some ⟨A, r * 9, none⟩) := h12 _ (Frm.refl _ W)
                  try simp only [e12]
                  try simp only [e5]
                  try simp only [tupAt]
                  exact OpOK.load (by rfl) _ rfl (by rfl) ((HJ.out W (D.trans gW)).all.ctx hr) (fun W' _ => rfl)
                try simp only [Act.put, List.setIfInBounds_toArray, List.set_cons_zero, List.set_cons_succ]
                refine RelO.next (k' := 15) rfl (fun W gW hF => ?_) ?_
                focus
                  obtain ⟨h5, h9, h13, _⟩ := hF
                  have e5 : val 5 = .bool false := h5 _ (Frm.refl _ W)
                  have e9 : val 9 = .agg (vv (F q)) := h9 _ (Frm.refl _ W)
                  have e13 : val 13 = .agg (vv (F r)) := h13 _ (Frm.refl _ W)
                  try simp only [e13]
                  try simp only [e9]
                  try simp only [e5]
                  try simp only [tupAt]
                  have E := HEV.out
                  exact OpOK.val (u := .bool true) (by rfl) (by first | (go_simp; done) | (go_simp; with_reducible rfl) | (go_simp; rfl)) (fun W' _ => rfl)
                try simp only [Act.put, List.setIfInBounds_toArray, List.set_cons_zero, List.set_cons_succ]
                refine RelO.next (k' := 16) rfl (fun W gW hF => ?_) ?_
                focus
                  obtain ⟨h5, _⟩ := hF
                  have e5 : val 5 = .bool false := h5 _ (Frm.refl _ W)
                  try simp only [e5]
                  try simp only [tupAt]
                  refine OpOK.val (u := .int .i64 (q : Int)) (by rfl) ?_ (fun W' _ => rfl)
                  try simp only [e5]
                  try simp only [tupAt]
                  first | (go_simp; done) | (go_simp; with_reducible rfl) | (go_simp; rfl)
                try simp only [Act.put, List.setIfInBounds_toArray, List.set_cons_zero, List.set_cons_succ]
                refine RelO.next (k' := 17) rfl (fun W gW hF => ?_) ?_
                focus
                  obtain ⟨h5, h15, _⟩ := hF
                  have e5 : val 5 = .bool false := h5 _ (Frm.refl _ W)
                  have e15 : val 15 = .int .i64 (q : Int) := h15 _ (Frm.refl _ W)
                  try simp only [e15]
                  try simp only [e5]
                  try simp only [tupAt]
                  refine OpOK.val (u := .pointer (some ⟨A, q * 9, none⟩)) (by rfl) ?_ (fun W' _ => rfl)
                  try simp only [e15]
                  try simp only [e5]
                  try simp only [tupAt]
                  first | (go_simp; done) | (go_simp; with_reducible rfl) | (go_simp; rfl)
                try simp only [Act.put, List.setIfInBounds_toArray, List.set_cons_zero, List.set_cons_succ]
                refine RelO.next (k' := 18) rfl (fun W gW hF => ?_) ?_
                focus
                  obtain ⟨h5, h16, _⟩ := hF
                  have e5 : val 5 = .bool false := h5 _ (Frm.refl _ W)
                  have e16 : val 16 = .pointer (some ⟨A, q * 9, none⟩) := h16 _ (Frm.refl _ W)
                  try simp only [e16]
                  try simp only [e5]
                  try simp only [tupAt]
                  exact OpOK.load (by rfl) _ rfl (by rfl) ((HJ.out W (D.trans gW)).all.load hq4) (fun W' _ => rfl)
                try simp only [Act.put, List.setIfInBounds_toArray, List.set_cons_zero, List.set_cons_succ]
                refine RelO.next (k' := 19) rfl (fun W gW hF => ?_) ?_
                focus
                  obtain ⟨h5, _⟩ := hF
                  have e5 : val 5 = .bool false := h5 _ (Frm.refl _ W)
                  try simp only [e5]
                  try simp only [tupAt]
                  refine OpOK.val (u := .int .i64 (r : Int)) (by rfl) ?_ (fun W' _ => rfl)
                  try simp only [e5]
                  try simp only [tupAt]
                  first | (go_simp; done) | (go_simp; with_reducible rfl) | (go_simp; rfl)
                try simp only [Act.put, List.setIfInBounds_toArray, List.set_cons_zero, List.set_cons_succ]
                refine RelO.next (k' := 20) rfl (fun W gW hF => ?_) ?_
                focus
                  obtain ⟨h5, h18, _⟩ := hF
                  have e5 : val 5 = .bool false := h5 _ (Frm.refl _ W)
                  have e18 : val 18 = .int .i64 (r : Int) := h18 _ (Frm.refl _ W)
                  try simp only [e18]
                  try simp only [e5]
                  try simp only [tupAt]
                  refine OpOK.val (u := .pointer (some ⟨A, r * 9, none⟩)) (by rfl) ?_ (fun W' _ => rfl)
                  try simp only [e18]
                  try simp only [e5]
                  try simp only [tupAt]
                  first | (go_simp; done) | (go_simp; with_reducible rfl) | (go_simp; rfl)
                try simp only [Act.put, List.setIfInBounds_toArray, List.set_cons_zero, List.set_cons_succ]
                refine RelO.next (k' := 21) rfl (fun W gW hF => ?_) ?_
                focus
                  obtain ⟨h5, h19, _⟩ := hF
                  have e5 : val 5 = .bool false := h5 _ (Frm.refl _ W)
                  have e19 : val 19 = .pointer (some ⟨A, r * 9, none⟩) := h19 _ (Frm.refl _ W)
                  try simp only [e19]
                  try simp only [e5]
                  try simp only [tupAt]
                  exact OpOK.load (by rfl) _ rfl (by rfl) ((HJ.out W (D.trans gW)).all.load hr) (fun W' _ => rfl)
                try simp only [Act.put, List.setIfInBounds_toArray, List.set_cons_zero, List.set_cons_succ]
                refine RelO.next (k' := 22) rfl (fun W gW hF => ?_) ?_
                focus
                  obtain ⟨h5, h17, h20, _⟩ := hF
                  have e5 : val 5 = .bool false := h5 _ (Frm.refl _ W)
                  have e17 : val 17 = rg (F q) (V q) := h17 _ (Frm.refl _ W)
                  have e20 : val 20 = rg (F r) (V r) := h20 _ (Frm.refl _ W)
                  try simp only [e20]
                  try simp only [e17]
                  try simp only [e5]
                  try simp only [tupAt]
                  refine OpOK.call (by rfl) ?_ ((equal_any (F q) (F r) (V q) (V r) (L q) (L r) W ((HJ.out W (D.trans gW)).sl q hq4) ((HJ.out W (D.trans gW)).sl r hr)).mono ?_)
                  · first | (go_simp; done) | (go_simp; with_reducible rfl) | (go_simp; rfl)
                  · rintro e W1 ⟨he, g1⟩
                    rw [HEB.out] at he
                    subst he
                    exact ⟨_, rfl, g1, fun W2 _ => rfl⟩
                try simp only [Act.put, List.setIfInBounds_toArray, List.set_cons_zero, List.set_cons_succ]
                refine RelO.next (k' := 23) rfl (fun W gW hF => ?_) ?_
                focus
                  obtain ⟨h5, h14, h21, _⟩ := hF
                  have e5 : val 5 = .bool false := h5 _ (Frm.refl _ W)
                  have e14 : val 14 = .bool true := h14 _ (Frm.refl _ W)
                  have e21 : val 21 = .bool true := h21 _ (Frm.refl _ W)
                  try simp only [e21]
                  try simp only [e14]
                  try simp only [e5]
                  try simp only [tupAt]
                  refine OpOK.val (u := .bool false) (by rfl) ?_ (fun W' _ => rfl)
                  try simp only [e21]
                  try simp only [e14]
                  try simp only [e5]
                  try simp only [tupAt]
                  first | (go_simp; done) | (go_simp; with_reducible rfl) | (go_simp; rfl)
                try simp only [Act.put, List.setIfInBounds_toArray, List.set_cons_zero, List.set_cons_succ]
                refine RelO.next (k' := 24) rfl (fun W gW hF => ?_) ?_
                focus
                  obtain ⟨h5, h22, _⟩ := hF
                  have e5 : val 5 = .bool false := h5 _ (Frm.refl _ W)
                  have e22 : val 22 = .bool false := h22 _ (Frm.refl _ W)
                  try simp only [e22]
                  try simp only [e5]
                  try simp only [tupAt]
                  refine OpOK.val (u := .bool false) (by rfl) ?_ (fun W' _ => rfl)
                  try simp only [e22]
                  try simp only [e5]
                  try simp only [tupAt]
                  first | (go_simp; done) | (go_simp; with_reducible rfl) | (go_simp; rfl)
                try simp only [Act.put, List.setIfInBounds_toArray, List.set_cons_zero, List.set_cons_succ]
                exact RelO.nil
              intro val w7 gW hF
              obtain ⟨h0, h1, h2, h3, h4, h5, h6, h7, h8, h9, h10, h11, h12, h13, h14, h15, h16, h17, h18, h19, h20, h21, h22, h23, hT⟩ := hF
              have e0 : val 0 = .int .i64 (q : Int) := h0 _ (Frm.refl _ w7)
              have e1 : val 1 = .pointer (some ⟨A, q * 9, none⟩) := h1 _ (Frm.refl _ w7)
              have e2 : val 2 = rg (F q) (V q) := h2 _ (Frm.refl _ w7)
              have e3 : val 3 = .int .i64 0 := h3 _ (Frm.refl _ w7)
              have e4 : val 4 = .bool false := h4 _ (Frm.refl _ w7)
              have e5 : val 5 = .bool false := h5 _ (Frm.refl _ w7)
              have e6 : val 6 = .int .i64 (q : Int) := h6 _ (Frm.refl _ w7)
              have e7 : val 7 = .pointer (some ⟨A, q * 9, none⟩) := h7 _ (Frm.refl _ w7)
              have e8 : val 8 = .pointer (some ⟨A, q * 9, none⟩) := h8 _ (Frm.refl _ w7)
              have e9 : val 9 = .agg (vv (F q)) := h9 _ (Frm.refl _ w7)
              have e10 : val 10 = .int .i64 (r : Int) := h10 _ (Frm.refl _ w7)
              have e11 : val 11 = .pointer (some ⟨A, r * 9, none⟩) := h11 _ (Frm.refl _ w7)
              have e12 : val 12 = .pointer (some ⟨A, r * 9, none⟩) := h12 _ (Frm.refl _ w7)
              have e13 : val 13 = .agg (vv (F r)) := h13 _ (Frm.refl _ w7)
              have e14 : val 14 = .bool true := h14 _ (Frm.refl _ w7)
              have e15 : val 15 = .int .i64 (q : Int) := h15 _ (Frm.refl _ w7)
              have e16 : val 16 = .pointer (some ⟨A, q * 9, none⟩) := h16 _ (Frm.refl _ w7)
              have e17 : val 17 = rg (F q) (V q) := h17 _ (Frm.refl _ w7)
              have e18 : val 18 = .int .i64 (r : Int) := h18 _ (Frm.refl _ w7)
              have e19 : val 19 = .pointer (some ⟨A, r * 9, none⟩) := h19 _ (Frm.refl _ w7)
              have e20 : val 20 = rg (F r) (V r) := h20 _ (Frm.refl _ w7)
              have e21 : val 21 = .bool true := h21 _ (Frm.refl _ w7)
              have e22 : val 22 = .bool false := h22 _ (Frm.refl _ w7)
              have e23 : val 23 = .bool false := h23 _ (Frm.refl _ w7)
              clear hT h0 h1 h2 h3 h4 h5 h6 h7 h8 h9 h10 h11 h12 h13 h14 h15 h16 h17 h18 h19 h20 h21 h22 h23
              simp only [aO, Act.put, List.setIfInBounds_toArray, List.set_cons_zero, List.set_cons_succ, Nat.reduceAdd]
              try simp only [e23]
              try simp only [e22]
              try simp only [e21]
              try simp only [e20]
              try simp only [e19]
              try simp only [e18]
              try simp only [e17]
              try simp only [e16]
              try simp only [e15]
              try simp only [e14]
              try simp only [e13]
              try simp only [e12]
              try simp only [e11]
              try simp only [e10]
              try simp only [e9]
              try simp only [e8]
              try simp only [e7]
              try simp only [e6]
              try simp only [e5]
              try simp only [e4]
              try simp only [e3]
              try simp only [e2]
              try simp only [e1]
              try simp only [e0]
              try simp only [tupAt]
              refine wpTail.doneN ?_
              refine hK _ _ ?_
              have HG7 := Lib.hid (gq.trans (D.trans gW))
              clear gW D hK HEB HEV HCK HJ gq e0 e1 e2 e3 e4 e5 e6 e7 e8 e9 e10 e11 e12 e13 e14 e15 e16 e17 e18 e19 e20 e21 e22 e23
              go_wp2_with fail
              go_roundw
              case rel => exact ⟨q + 1, by omega, by go_num, HG7.out⟩
              case measure => simp [intOf]; omega
            case false =>
              have HEB : Hid ((eq8 (F q) (F r) && decide (L q = L r)) = false) := Lib.hid (by rw [hb]; rfl)
              have HEV : Hid (∀ W, (Op.equalIn 10000 24 (.agg (vv (F q))) (.agg (vv (F r)))).run Try.prog W = .ok false W) := Lib.hid fun W => by rw [run_eq_vec, hb]
              clear hb
              go_upto_region 16 with fail
              rename_i hK
              have D : Frm (fun _ => False) wr wr.drew := (Frm.refl _ _).drew
              refine wp_region_late 24 0 [] [[], [0], [1], [2], [3], [4], [5], [5, 6], [5, 7], [5, 8], [5], [5, 10], [5, 11], [5, 12], [5, 9, 13], [5], [5, 15], [5, 16], [5], [5, 18], [5, 19], [5, 17, 20], [5, 14, 21], [5, 22]] ss16fM (ss16fR A r q F V) (by kernel_rfl) rfl rfl rfl (by kernel_rfl) (by kernel_rfl) (by kernel_rfl) (by kernel_rfl) rfl (by kernel_rfl) (by kernel_rfl) (by kernel_rfl) (by kernel_rfl) (fun val => ?_) ?_
              · try dsimp only
                refine RelO.next (k' := 1) rfl (fun W gW hF => ?_) ?_
                focus
                  refine OpOK.val (u := .int .i64 (q : Int)) (by rfl) ?_ (fun W' _ => rfl)
                  try simp only [tupAt]
                  first | (go_simp; done) | (go_simp; with_reducible rfl) | (go_simp; rfl)
                try simp only [Act.put, List.setIfInBounds_toArray, List.set_cons_zero, List.set_cons_succ]
                refine RelO.next (k' := 2) rfl (fun W gW hF => ?_) ?_
                focus
                  obtain ⟨h0, _⟩ := hF
                  have e0 : val 0 = .int .i64 (q : Int) := h0 _ (Frm.refl _ W)
                  try simp only [e0]
                  try simp only [tupAt]
                  refine OpOK.val (u := .pointer (some ⟨A, q * 9, none⟩)) (by rfl) ?_ (fun W' _ => rfl)
                  try simp only [e0]
                  try simp only [tupAt]
                  first | (go_simp; done) | (go_simp; with_reducible rfl) | (go_simp; rfl)
                try simp only [Act.put, List.setIfInBounds_toArray, List.set_cons_zero, List.set_cons_succ]
                refine RelO.next (k' := 3) rfl (fun W gW hF => ?_) ?_
                focus
                  obtain ⟨h1, _⟩ := hF
                  have e1 : val 1 = .pointer (some ⟨A, q * 9, none⟩) := h1 _ (Frm.refl _ W)
                  try simp only [e1]
                  try simp only [tupAt]
                  exact OpOK.load (by rfl) _ rfl (by rfl) ((HJ.out W (D.trans gW)).all.load hq4) (fun W' _ => rfl)
                try simp only [Act.put, List.setIfInBounds_toArray, List.set_cons_zero, List.set_cons_succ]
                refine RelO.next (k' := 4) rfl (fun W gW hF => ?_) ?_
                focus
                  obtain ⟨h2, _⟩ := hF
                  have e2 : val 2 = rg (F q) (V q) := h2 _ (Frm.refl _ W)
                  try simp only [e2]
                  try simp only [tupAt]
                  refine OpOK.call (by rfl) ?_ ((check_any (F q) (V q) (L q) W ((HJ.out W (D.trans gW)).hist.fit q hq4) ((HJ.out W (D.trans gW)).sl q hq4) (by have := (HJ.out W (D.trans gW)).hist.few q hq4; omega)).mono ?_)
                  · first | (go_simp; done) | (go_simp; with_reducible rfl) | (go_simp; rfl)
                  · rintro e W1 ⟨he, g1⟩
                    rw [HCK.out] at he
                    subst he
                    exact ⟨_, rfl, g1, fun W2 _ => rfl⟩
                try simp only [Act.put, List.setIfInBounds_toArray, List.set_cons_zero, List.set_cons_succ]
                refine RelO.next (k' := 5) rfl (fun W gW hF => ?_) ?_
                focus
                  obtain ⟨h3, _⟩ := hF
                  have e3 : val 3 = .int .i64 0 := h3 _ (Frm.refl _ W)
                  try simp only [e3]
                  try simp only [tupAt]
                  refine OpOK.val (u := .bool false) (by rfl) ?_ (fun W' _ => rfl)
                  try simp only [e3]
                  try simp only [tupAt]
                  first | (go_simp; done) | (go_simp; with_reducible rfl) | (go_simp; rfl)
                try simp only [Act.put, List.setIfInBounds_toArray, List.set_cons_zero, List.set_cons_succ]
                refine RelO.next (k' := 6) rfl (fun W gW hF => ?_) ?_
                focus
                  obtain ⟨h4, _⟩ := hF
                  have e4 : val 4 = .bool false := h4 _ (Frm.refl _ W)
                  try simp only [e4]
                  try simp only [tupAt]
                  refine OpOK.val (u := .bool false) (by rfl) ?_ (fun W' _ => rfl)
                  try simp only [e4]
                  try simp only [tupAt]
                  first | (go_simp; done) | (go_simp; with_reducible rfl) | (go_simp; rfl)
                try simp only [Act.put, List.setIfInBounds_toArray, List.set_cons_zero, List.set_cons_succ]
                refine RelO.next (k' := 7) rfl (fun W gW hF => ?_) ?_
                focus
                  obtain ⟨h5, _⟩ := hF
                  have e5 : val 5 = .bool false := h5 _ (Frm.refl _ W)
                  try simp only [e5]
                  try simp only [tupAt]
                  refine OpOK.val (u := .int .i64 (q : Int)) (by rfl) ?_ (fun W' _ => rfl)
                  try simp only [e5]
                  try simp only [tupAt]
                  first | (go_simp; done) | (go_simp; with_reducible rfl) | (go_simp; rfl)
                try simp only [Act.put, List.setIfInBounds_toArray, List.set_cons_zero, List.set_cons_succ]
                refine RelO.next (k' := 8) rfl (fun W gW hF => ?_) ?_
                focus
                  obtain ⟨h5, h6, _⟩ := hF
                  have e5 : val 5 = .bool false := h5 _ (Frm.refl _ W)
                  have e6 : val 6 = .int .i64 (q : Int) := h6 _ (Frm.refl _ W)
                  try simp only [e6]
                  try simp only [e5]
                  try simp only [tupAt]
                  refine OpOK.val (u := .pointer (some ⟨A, q * 9, none⟩)) (by rfl) ?_ (fun W' _ => rfl)
                  try simp only [e6]
                  try simp only [e5]
                  try simp only [tupAt]
                  first | (go_simp; done) | (go_simp; with_reducible rfl) | (go_simp; rfl)
                try simp only [Act.put, List.setIfInBounds_toArray, List.set_cons_zero, List.set_cons_succ]
                refine RelO.next (k' := 9) rfl (fun W gW hF => ?_) ?_
                focus
                  obtain ⟨h5, h7, _⟩ := hF
                  have e5 : val 5 = .bool false := h5 _ (Frm.refl _ W)
                  have e7 : val 7 = .pointer (some ⟨A, q * 9, none⟩) := h7 _ (Frm.refl _ W)
                  try simp only [e7]
                  try simp only [e5]
                  try simp only [tupAt]
                  refine OpOK.val (u := .pointer (some ⟨A, q * 9, none⟩)) (by rfl) ?_ (fun W' _ => rfl)
                  try simp only [e7]
                  try simp only [e5]
                  try simp only [tupAt]
                  first | (go_simp; done) | (go_simp; with_reducible rfl) | (go_simp; rfl)
                try simp only [Act.put, List.setIfInBounds_toArray, List.set_cons_zero, List.set_cons_succ]
                refine RelO.next (k' := 10) rfl (fun W gW hF => ?_) ?_
                focus
                  obtain ⟨h5, h8, _⟩ := hF
                  have e5 : val 5 = .bool false := h5 _ (Frm.refl _ W)
                  have e8 : val 8 = .pointer (some ⟨A, q * 9, none⟩) := h8 _ (Frm.refl _ W)
                  try simp only [e8]
                  try simp only [e5]
                  try simp only [tupAt]
                  exact OpOK.load (by rfl) _ rfl (by rfl) ((HJ.out W (D.trans gW)).all.ctx hq4) (fun W' _ => rfl)
                try simp only [Act.put, List.setIfInBounds_toArray, List.set_cons_zero, List.set_cons_succ]
                refine RelO.next (k' := 11) rfl (fun W gW hF => ?_) ?_
                focus
                  obtain ⟨h5, _⟩ := hF
                  have e5 : val 5 = .bool false := h5 _ (Frm.refl _ W)
                  try simp only [e5]
                  try simp only [tupAt]
                  refine OpOK.val (u := .int .i64 (r : Int)) (by rfl) ?_ (fun W' _ => rfl)
                  try simp only [e5]
                  try simp only [tupAt]
                  first | (go_simp; done) | (go_simp; with_reducible rfl) | (go_simp; rfl)
                try simp only [Act.put, List.setIfInBounds_toArray, List.set_cons_zero, List.set_cons_succ]
                refine RelO.next (k' := 12) rfl (fun W gW hF => ?_) ?_
                focus
                  obtain ⟨h5, h10, _⟩ := hF
                  have e5 : val 5 = .bool false := h5 _ (Frm.refl _ W)
                  have e10 : val 10 = .int .i64 (r : Int) := h10 _ (Frm.refl _ W)
                  try simp only [e10]
                  try simp only [e5]
                  try simp only [tupAt]
                  refine OpOK.val (u := .pointer (some ⟨A, r * 9, none⟩)) (by rfl) ?_ (fun W' _ => rfl)
                  try simp only [e10]
                  try simp only [e5]
                  try simp only [tupAt]
                  first | (go_simp; done) | (go_simp; with_reducible rfl) | (go_simp; rfl)
                try simp only [Act.put, List.setIfInBounds_toArray, List.set_cons_zero, List.set_cons_succ]
                refine RelO.next (k' := 13) rfl (fun W gW hF => ?_) ?_
                focus
                  obtain ⟨h5, h11, _⟩ := hF
                  have e5 : val 5 = .bool false := h5 _ (Frm.refl _ W)
                  have e11 : val 11 = .pointer (some ⟨A, r * 9, none⟩) := h11 _ (Frm.refl _ W)
                  try simp only [e11]
                  try simp only [e5]
                  try simp only [tupAt]
                  refine OpOK.val (u := .pointer (some ⟨A, r * 9, none⟩)) (by rfl) ?_ (fun W' _ => rfl)
                  try simp only [e11]
                  try simp only [e5]
                  try simp only [tupAt]
                  first | (go_simp; done) | (go_simp; with_reducible rfl) | (go_simp; rfl)
                try simp only [Act.put, List.setIfInBounds_toArray, List.set_cons_zero, List.set_cons_succ]
                refine RelO.next (k' := 14) rfl (fun W gW hF => ?_) ?_
                focus
                  obtain ⟨h5, h12, _⟩ := hF
                  have e5 : val 5 = .bool false := h5 _ (Frm.refl _ W)
                  have e12 : val 12 = .pointer (some ⟨A, r * 9, none⟩) := h12 _ (Frm.refl _ W)
                  try simp only [e12]
                  try simp only [e5]
                  try simp only [tupAt]
                  exact OpOK.load (by rfl) _ rfl (by rfl) ((HJ.out W (D.trans gW)).all.ctx hr) (fun W' _ => rfl)
                try simp only [Act.put, List.setIfInBounds_toArray, List.set_cons_zero, List.set_cons_succ]
                refine RelO.next (k' := 15) rfl (fun W gW hF => ?_) ?_
                focus
                  obtain ⟨h5, h9, h13, _⟩ := hF
                  have e5 : val 5 = .bool false := h5 _ (Frm.refl _ W)
                  have e9 : val 9 = .agg (vv (F q)) := h9 _ (Frm.refl _ W)
                  have e13 : val 13 = .agg (vv (F r)) := h13 _ (Frm.refl _ W)
                  try simp only [e13]
                  try simp only [e9]
                  try simp only [e5]
                  try simp only [tupAt]
                  have E := HEV.out
                  exact OpOK.val (u := .bool false) (by rfl) (by first | (go_simp; done) | (go_simp; with_reducible rfl) | (go_simp; rfl)) (fun W' _ => rfl)
                try simp only [Act.put, List.setIfInBounds_toArray, List.set_cons_zero, List.set_cons_succ]
                refine RelO.next (k' := 16) rfl (fun W gW hF => ?_) ?_
                focus
                  obtain ⟨h5, _⟩ := hF
                  have e5 : val 5 = .bool false := h5 _ (Frm.refl _ W)
                  try simp only [e5]
                  try simp only [tupAt]
                  refine OpOK.val (u := .int .i64 (q : Int)) (by rfl) ?_ (fun W' _ => rfl)
                  try simp only [e5]
                  try simp only [tupAt]
                  first | (go_simp; done) | (go_simp; with_reducible rfl) | (go_simp; rfl)
                try simp only [Act.put, List.setIfInBounds_toArray, List.set_cons_zero, List.set_cons_succ]
                refine RelO.next (k' := 17) rfl (fun W gW hF => ?_) ?_
                focus
                  obtain ⟨h5, h15, _⟩ := hF
                  have e5 : val 5 = .bool false := h5 _ (Frm.refl _ W)
                  have e15 : val 15 = .int .i64 (q : Int) := h15 _ (Frm.refl _ W)
                  try simp only [e15]
                  try simp only [e5]
                  try simp only [tupAt]
                  refine OpOK.val (u := .pointer (some ⟨A, q * 9, none⟩)) (by rfl) ?_ (fun W' _ => rfl)
                  try simp only [e15]
                  try simp only [e5]
                  try simp only [tupAt]
                  first | (go_simp; done) | (go_simp; with_reducible rfl) | (go_simp; rfl)
                try simp only [Act.put, List.setIfInBounds_toArray, List.set_cons_zero, List.set_cons_succ]
                refine RelO.next (k' := 18) rfl (fun W gW hF => ?_) ?_
                focus
                  obtain ⟨h5, h16, _⟩ := hF
                  have e5 : val 5 = .bool false := h5 _ (Frm.refl _ W)
                  have e16 : val 16 = .pointer (some ⟨A, q * 9, none⟩) := h16 _ (Frm.refl _ W)
                  try simp only [e16]
                  try simp only [e5]
                  try simp only [tupAt]
                  exact OpOK.load (by rfl) _ rfl (by rfl) ((HJ.out W (D.trans gW)).all.load hq4) (fun W' _ => rfl)
                try simp only [Act.put, List.setIfInBounds_toArray, List.set_cons_zero, List.set_cons_succ]
                refine RelO.next (k' := 19) rfl (fun W gW hF => ?_) ?_
                focus
                  obtain ⟨h5, _⟩ := hF
                  have e5 : val 5 = .bool false := h5 _ (Frm.refl _ W)
                  try simp only [e5]
                  try simp only [tupAt]
                  refine OpOK.val (u := .int .i64 (r : Int)) (by rfl) ?_ (fun W' _ => rfl)
                  try simp only [e5]
                  try simp only [tupAt]
                  first | (go_simp; done) | (go_simp; with_reducible rfl) | (go_simp; rfl)
                try simp only [Act.put, List.setIfInBounds_toArray, List.set_cons_zero, List.set_cons_succ]
                refine RelO.next (k' := 20) rfl (fun W gW hF => ?_) ?_
                focus
                  obtain ⟨h5, h18, _⟩ := hF
                  have e5 : val 5 = .bool false := h5 _ (Frm.refl _ W)
                  have e18 : val 18 = .int .i64 (r : Int) := h18 _ (Frm.refl _ W)
                  try simp only [e18]
                  try simp only [e5]
                  try simp only [tupAt]
                  refine OpOK.val (u := .pointer (some ⟨A, r * 9, none⟩)) (by rfl) ?_ (fun W' _ => rfl)
                  try simp only [e18]
                  try simp only [e5]
                  try simp only [tupAt]
                  first | (go_simp; done) | (go_simp; with_reducible rfl) | (go_simp; rfl)
                try simp only [Act.put, List.setIfInBounds_toArray, List.set_cons_zero, List.set_cons_succ]
                refine RelO.next (k' := 21) rfl (fun W gW hF => ?_) ?_
                focus
                  obtain ⟨h5, h19, _⟩ := hF
                  have e5 : val 5 = .bool false := h5 _ (Frm.refl _ W)
                  have e19 : val 19 = .pointer (some ⟨A, r * 9, none⟩) := h19 _ (Frm.refl _ W)
                  try simp only [e19]
                  try simp only [e5]
                  try simp only [tupAt]
                  exact OpOK.load (by rfl) _ rfl (by rfl) ((HJ.out W (D.trans gW)).all.load hr) (fun W' _ => rfl)
                try simp only [Act.put, List.setIfInBounds_toArray, List.set_cons_zero, List.set_cons_succ]
                refine RelO.next (k' := 22) rfl (fun W gW hF => ?_) ?_
                focus
                  obtain ⟨h5, h17, h20, _⟩ := hF
                  have e5 : val 5 = .bool false := h5 _ (Frm.refl _ W)
                  have e17 : val 17 = rg (F q) (V q) := h17 _ (Frm.refl _ W)
                  have e20 : val 20 = rg (F r) (V r) := h20 _ (Frm.refl _ W)
                  try simp only [e20]
                  try simp only [e17]
                  try simp only [e5]
                  try simp only [tupAt]
                  refine OpOK.call (by rfl) ?_ ((equal_any (F q) (F r) (V q) (V r) (L q) (L r) W ((HJ.out W (D.trans gW)).sl q hq4) ((HJ.out W (D.trans gW)).sl r hr)).mono ?_)
                  · first | (go_simp; done) | (go_simp; with_reducible rfl) | (go_simp; rfl)
                  · rintro e W1 ⟨he, g1⟩
                    rw [HEB.out] at he
                    subst he
                    exact ⟨_, rfl, g1, fun W2 _ => rfl⟩
                try simp only [Act.put, List.setIfInBounds_toArray, List.set_cons_zero, List.set_cons_succ]
                refine RelO.next (k' := 23) rfl (fun W gW hF => ?_) ?_
                focus
                  obtain ⟨h5, h14, h21, _⟩ := hF
                  have e5 : val 5 = .bool false := h5 _ (Frm.refl _ W)
                  have e14 : val 14 = .bool false := h14 _ (Frm.refl _ W)
                  have e21 : val 21 = .bool false := h21 _ (Frm.refl _ W)
                  try simp only [e21]
                  try simp only [e14]
                  try simp only [e5]
                  try simp only [tupAt]
                  refine OpOK.val (u := .bool false) (by rfl) ?_ (fun W' _ => rfl)
                  try simp only [e21]
                  try simp only [e14]
                  try simp only [e5]
                  try simp only [tupAt]
                  first | (go_simp; done) | (go_simp; with_reducible rfl) | (go_simp; rfl)
                try simp only [Act.put, List.setIfInBounds_toArray, List.set_cons_zero, List.set_cons_succ]
                refine RelO.next (k' := 24) rfl (fun W gW hF => ?_) ?_
                focus
                  obtain ⟨h5, h22, _⟩ := hF
                  have e5 : val 5 = .bool false := h5 _ (Frm.refl _ W)
                  have e22 : val 22 = .bool false := h22 _ (Frm.refl _ W)
                  try simp only [e22]
                  try simp only [e5]
                  try simp only [tupAt]
                  refine OpOK.val (u := .bool false) (by rfl) ?_ (fun W' _ => rfl)
                  try simp only [e22]
                  try simp only [e5]
                  try simp only [tupAt]
                  first | (go_simp; done) | (go_simp; with_reducible rfl) | (go_simp; rfl)
                try simp only [Act.put, List.setIfInBounds_toArray, List.set_cons_zero, List.set_cons_succ]
                exact RelO.nil
              intro val w7 gW hF
              obtain ⟨h0, h1, h2, h3, h4, h5, h6, h7, h8, h9, h10, h11, h12, h13, h14, h15, h16, h17, h18, h19, h20, h21, h22, h23, hT⟩ := hF
              have e0 : val 0 = .int .i64 (q : Int) := h0 _ (Frm.refl _ w7)
              have e1 : val 1 = .pointer (some ⟨A, q * 9, none⟩) := h1 _ (Frm.refl _ w7)
              have e2 : val 2 = rg (F q) (V q) := h2 _ (Frm.refl _ w7)
              have e3 : val 3 = .int .i64 0 := h3 _ (Frm.refl _ w7)
              have e4 : val 4 = .bool false := h4 _ (Frm.refl _ w7)
              have e5 : val 5 = .bool false := h5 _ (Frm.refl _ w7)
              have e6 : val 6 = .int .i64 (q : Int) := h6 _ (Frm.refl _ w7)
              have e7 : val 7 = .pointer (some ⟨A, q * 9, none⟩) := h7 _ (Frm.refl _ w7)
              have e8 : val 8 = .pointer (some ⟨A, q * 9, none⟩) := h8 _ (Frm.refl _ w7)
              have e9 : val 9 = .agg (vv (F q)) := h9 _ (Frm.refl _ w7)
              have e10 : val 10 = .int .i64 (r : Int) := h10 _ (Frm.refl _ w7)
              have e11 : val 11 = .pointer (some ⟨A, r * 9, none⟩) := h11 _ (Frm.refl _ w7)
              have e12 : val 12 = .pointer (some ⟨A, r * 9, none⟩) := h12 _ (Frm.refl _ w7)
              have e13 : val 13 = .agg (vv (F r)) := h13 _ (Frm.refl _ w7)
              have e14 : val 14 = .bool false := h14 _ (Frm.refl _ w7)
              have e15 : val 15 = .int .i64 (q : Int) := h15 _ (Frm.refl _ w7)
              have e16 : val 16 = .pointer (some ⟨A, q * 9, none⟩) := h16 _ (Frm.refl _ w7)
              have e17 : val 17 = rg (F q) (V q) := h17 _ (Frm.refl _ w7)
              have e18 : val 18 = .int .i64 (r : Int) := h18 _ (Frm.refl _ w7)
              have e19 : val 19 = .pointer (some ⟨A, r * 9, none⟩) := h19 _ (Frm.refl _ w7)
              have e20 : val 20 = rg (F r) (V r) := h20 _ (Frm.refl _ w7)
              have e21 : val 21 = .bool false := h21 _ (Frm.refl _ w7)
              have e22 : val 22 = .bool false := h22 _ (Frm.refl _ w7)
              have e23 : val 23 = .bool false := h23 _ (Frm.refl _ w7)
              clear hT h0 h1 h2 h3 h4 h5 h6 h7 h8 h9 h10 h11 h12 h13 h14 h15 h16 h17 h18 h19 h20 h21 h22 h23
              simp only [aO, Act.put, List.setIfInBounds_toArray, List.set_cons_zero, List.set_cons_succ, Nat.reduceAdd]
              try simp only [e23]
              try simp only [e22]
              try simp only [e21]
              try simp only [e20]
              try simp only [e19]
              try simp only [e18]
              try simp only [e17]
              try simp only [e16]
              try simp only [e15]
              try simp only [e14]
              try simp only [e13]
              try simp only [e12]
              try simp only [e11]
              try simp only [e10]
              try simp only [e9]
              try simp only [e8]
              try simp only [e7]
              try simp only [e6]
              try simp only [e5]
              try simp only [e4]
              try simp only [e3]
              try simp only [e2]
              try simp only [e1]
              try simp only [e0]
              try simp only [tupAt]
              refine wpTail.doneN ?_
              refine hK _ _ ?_
              have HG7 := Lib.hid (gq.trans (D.trans gW))
              clear gW D hK HEB HEV HCK HJ gq e0 e1 e2 e3 e4 e5 e6 e7 e8 e9 e10 e11 e12 e13 e14 e15 e16 e17 e18 e19 e20 e21 e22 e23
              go_wp2_with fail
              go_roundw
              case rel => exact ⟨q + 1, by omega, by go_num, HG7.out⟩
              case measure => simp [intOf]; omega
          · obtain rfl : q = 4 := by omega
            go_wp2_with fail
            go_roundw
            case rel => exact ⟨k + 1, E', F, V, L, by omega, by go_num, HJ5.out.keep gq⟩
            case measure => simp [intOf]; have := HLN.out; omega
      · have HML : Hid (¬ (m : Int) < 2) := Lib.hid (by omega)
        clear hW hm2
        go_upto_region 10 with fail
        rename_i hK
        have D : Frm (fun _ => False) w4 w4.drew := (Frm.refl _ _).drew
        refine wp_region_late 43 0 [] [[], [], [0, 1], [2], [3], [4], [5], [6], [7], [7, 8], [7, 9], [7, 10], [7, 11], [12], [12, 13], [12], [12, 15], [12, 16], [12, 17], [12, 14, 18], [12, 19], [12, 20], [12], [12, 21, 22], [7, 12, 23], [7, 24], [25], [25, 26], [25], [25, 28], [25, 29], [25, 30], [25, 27, 31], [25, 32], [25, 33], [25], [25], [25, 35, 36], [25, 37], [25, 38], [25, 34, 39], [7, 25, 40], [7, 41]] ss10aM (ss10aR g off n cap k m x) (by kernel_rfl) rfl rfl rfl (by kernel_rfl) (by kernel_rfl) (by kernel_rfl) (by kernel_rfl) rfl (by kernel_rfl) (by kernel_rfl) (by kernel_rfl) (by kernel_rfl) (fun val => ?_) ?_
        · try dsimp only
          refine RelO.next (k' := 1) rfl (fun W gW hF => ?_) ?_
          focus
            refine OpOK.val (u := .slice (some ⟨g, off, none⟩) n cap) (by rfl) ?_ (fun W' _ => rfl)
            try simp only [tupAt]
            first | (go_simp; done) | (go_simp; with_reducible rfl) | (go_simp; rfl)
          try simp only [Act.put, List.setIfInBounds_toArray, List.set_cons_zero, List.set_cons_succ]
          refine RelO.next (k' := 2) rfl (fun W gW hF => ?_) ?_
          focus
            refine OpOK.val (u := .int .i64 (k : Int)) (by rfl) ?_ (fun W' _ => rfl)
            try simp only [tupAt]
            first | (go_simp; done) | (go_simp; with_reducible rfl) | (go_simp; rfl)
          try simp only [Act.put, List.setIfInBounds_toArray, List.set_cons_zero, List.set_cons_succ]
          refine RelO.next (k' := 3) rfl (fun W gW hF => ?_) ?_
          focus
            obtain ⟨h0, h1, _⟩ := hF
            have e0 : val 0 = .slice (some ⟨g, off, none⟩) n cap := h0 _ (Frm.refl _ W)
            have e1 : val 1 = .int .i64 (k : Int) := h1 _ (Frm.refl _ W)
            try simp only [e1]
            try simp only [e0]
            try simp only [tupAt]
            refine OpOK.val (u := .pointer (some ⟨g, off + k * 5, none⟩)) (by rfl) ?_ (fun W' _ => rfl)
            try simp only [e1]
            try simp only [e0]
            try simp only [tupAt]
            first | (go_simp; done) | (go_simp; with_reducible rfl) | (go_simp; rfl)
          try simp only [Act.put, List.setIfInBounds_toArray, List.set_cons_zero, List.set_cons_succ]
          refine RelO.next (k' := 4) rfl (fun W gW hF => ?_) ?_
          focus
            obtain ⟨h2, _⟩ := hF
            have e2 : val 2 = .pointer (some ⟨g, off + k * 5, none⟩) := h2 _ (Frm.refl _ W)
            try simp only [e2]
            try simp only [tupAt]
            refine OpOK.val (u := .pointer (some ⟨g, off + k * 5, none⟩)) (by rfl) ?_ (fun W' _ => rfl)
            try simp only [e2]
            try simp only [tupAt]
            first | (go_simp; done) | (go_simp; with_reducible rfl) | (go_simp; rfl)
          try simp only [Act.put, List.setIfInBounds_toArray, List.set_cons_zero, List.set_cons_succ]
          refine RelO.next (k' := 5) rfl (fun W gW hF => ?_) ?_
          focus
            obtain ⟨h3, _⟩ := hF
            have e3 : val 3 = .pointer (some ⟨g, off + k * 5, none⟩) := h3 _ (Frm.refl _ W)
            try simp only [e3]
            try simp only [tupAt]
            obtain ⟨x0, x1, x2, x3, x4⟩ := HXC.out W (D.trans gW)
            have a3 := Try.isAgg5
            have z3 := Try.sizeOf5
            exact OpOK.val (u := .int .u8 (x.k : Int)) (by rfl) (by first | (go_simp; done) | (go_simp; with_reducible rfl) | (go_simp; rfl)) (fun W' _ => rfl)
          try simp only [Act.put, List.setIfInBounds_toArray, List.set_cons_zero, List.set_cons_succ]
          refine RelO.next (k' := 6) rfl (fun W gW hF => ?_) ?_
          focus
            obtain ⟨h4, _⟩ := hF
            have e4 : val 4 = .int .u8 (x.k : Int) := h4 _ (Frm.refl _ W)
            try simp only [e4]
            try simp only [tupAt]
            have hm5 := HMT.out
            exact OpOK.val (u := .int .u8 (m : Int)) (by rfl) (by first | (go_simp; done) | (go_simp; with_reducible rfl) | (go_simp; rfl)) (fun W' _ => rfl)
          try simp only [Act.put, List.setIfInBounds_toArray, List.set_cons_zero, List.set_cons_succ]
          refine RelO.next (k' := 7) rfl (fun W gW hF => ?_) ?_
          focus
            obtain ⟨h5, _⟩ := hF
            have e5 : val 5 = .int .u8 (m : Int) := h5 _ (Frm.refl _ W)
            try simp only [e5]
            try simp only [tupAt]
            have hm5 := HML.out
            exact OpOK.val (u := .bool false) (by rfl) (by first | (go_simp; done) | (go_simp; with_reducible rfl) | (go_simp; rfl)) (fun W' _ => rfl)
          try simp only [Act.put, List.setIfInBounds_toArray, List.set_cons_zero, List.set_cons_succ]
          refine RelO.next (k' := 8) rfl (fun W gW hF => ?_) ?_
          focus
            obtain ⟨h6, _⟩ := hF
            have e6 : val 6 = .bool false := h6 _ (Frm.refl _ W)
            try simp only [e6]
            try simp only [tupAt]
            refine OpOK.val (u := .bool false) (by rfl) ?_ (fun W' _ => rfl)
            try simp only [e6]
            try simp only [tupAt]
            first | (go_simp; done) | (go_simp; with_reducible rfl) | (go_simp; rfl)
          try simp only [Act.put, List.setIfInBounds_toArray, List.set_cons_zero, List.set_cons_succ]
          refine RelO.next (k' := 9) rfl (fun W gW hF => ?_) ?_
          focus
            obtain ⟨h7, _⟩ := hF
            have e7 : val 7 = .bool false := h7 _ (Frm.refl _ W)
            try simp only [e7]
            try simp only [tupAt]
            exact OpOK.skip (by rfl) (fun W' _ => rfl)
          try simp only [Act.put, List.setIfInBounds_toArray, List.set_cons_zero, List.set_cons_succ]
          refine RelO.next (k' := 10) rfl (fun W gW hF => ?_) ?_
          focus
            obtain ⟨h7, h8, _⟩ := hF
            have e7 : val 7 = .bool false := h7 _ (Frm.refl _ W)
            have e8 : val 8 = undef := h8 _ (Frm.refl _ W)
            try simp only [e8]
            try simp only [e7]
            try simp only [tupAt]
            exact OpOK.skip (by rfl) (fun W' _ => rfl)
          try simp only [Act.put, List.setIfInBounds_toArray, List.set_cons_zero, List.set_cons_succ]
          refine RelO.next (k' := 11) rfl (fun W gW hF => ?_) ?_
          focus
            obtain ⟨h7, h9, _⟩ := hF
            have e7 : val 7 = .bool false := h7 _ (Frm.refl _ W)
            have e9 : val 9 = undef := h9 _ (Frm.refl _ W)
            try simp only [e9]
            try simp only [e7]
            try simp only [tupAt]
            exact OpOK.skip (by rfl) (fun W' _ => rfl)
          try simp only [Act.put, List.setIfInBounds_toArray, List.set_cons_zero, List.set_cons_succ]
          refine RelO.next (k' := 12) rfl (fun W gW hF => ?_) ?_
          focus
            obtain ⟨h7, h10, _⟩ := hF
            have e7 : val 7 = .bool false := h7 _ (Frm.refl _ W)
            have e10 : val 10 = undef := h10 _ (Frm.refl _ W)
            try simp only [e10]
            try simp only [e7]
            try simp only [tupAt]
            exact OpOK.skip (by rfl) (fun W' _ => rfl)
          try simp only [Act.put, List.setIfInBounds_toArray, List.set_cons_zero, List.set_cons_succ]
          refine RelO.next (k' := 13) rfl (fun W gW hF => ?_) ?_
          focus
            obtain ⟨h7, h11, _⟩ := hF
            have e7 : val 7 = .bool false := h7 _ (Frm.refl _ W)
            have e11 : val 11 = undef := h11 _ (Frm.refl _ W)
            try simp only [e11]
            try simp only [e7]
            try simp only [tupAt]
            exact OpOK.skip (by rfl) (fun W' _ => rfl)
          try simp only [Act.put, List.setIfInBounds_toArray, List.set_cons_zero, List.set_cons_succ]
          refine RelO.next (k' := 14) rfl (fun W gW hF => ?_) ?_
          focus
            obtain ⟨h12, _⟩ := hF
            have e12 : val 12 = undef := h12 _ (Frm.refl _ W)
            try simp only [e12]
            try simp only [tupAt]
            exact OpOK.skip (by rfl) (fun W' _ => rfl)
          try simp only [Act.put, List.setIfInBounds_toArray, List.set_cons_zero, List.set_cons_succ]
          refine RelO.next (k' := 15) rfl (fun W gW hF => ?_) ?_
          focus
            obtain ⟨h12, h13, _⟩ := hF
            have e12 : val 12 = undef := h12 _ (Frm.refl _ W)
            have e13 : val 13 = undef := h13 _ (Frm.refl _ W)
            try simp only [e13]
            try simp only [e12]
            try simp only [tupAt]
            exact OpOK.skip (by rfl) (fun W' _ => rfl)
          try simp only [Act.put, List.setIfInBounds_toArray, List.set_cons_zero, List.set_cons_succ]
          refine RelO.next (k' := 16) rfl (fun W gW hF => ?_) ?_
          focus
            obtain ⟨h12, _⟩ := hF
            have e12 : val 12 = undef := h12 _ (Frm.refl _ W)
            try simp only [e12]
            try simp only [tupAt]
            exact OpOK.skip (by rfl) (fun W' _ => rfl)
          try simp only [Act.put, List.setIfInBounds_toArray, List.set_cons_zero, List.set_cons_succ]
          refine RelO.next (k' := 17) rfl (fun W gW hF => ?_) ?_
          focus
            obtain ⟨h12, h15, _⟩ := hF
            have e12 : val 12 = undef := h12 _ (Frm.refl _ W)
            have e15 : val 15 = undef := h15 _ (Frm.refl _ W)
            try simp only [e15]
            try simp only [e12]
            try simp only [tupAt]
            exact OpOK.skip (by rfl) (fun W' _ => rfl)
          try simp only [Act.put, List.setIfInBounds_toArray, List.set_cons_zero, List.set_cons_succ]
          refine RelO.next (k' := 18) rfl (fun W gW hF => ?_) ?_
          focus
            obtain ⟨h12, h16, _⟩ := hF
            have e12 : val 12 = undef := h12 _ (Frm.refl _ W)
            have e16 : val 16 = undef := h16 _ (Frm.refl _ W)
            try simp only [e16]
            try simp only [e12]
            try simp only [tupAt]
            exact OpOK.skip (by rfl) (fun W' _ => rfl)
          try simp only [Act.put, List.setIfInBounds_toArray, List.set_cons_zero, List.set_cons_succ]
          refine RelO.next (k' := 19) rfl (fun W gW hF => ?_) ?_
          focus
            obtain ⟨h12, h17, _⟩ := hF
            have e12 : val 12 = undef := h12 _ (Frm.refl _ W)
            have e17 : val 17 = undef := h17 _ (Frm.refl _ W)
            try simp only [e17]
            try simp only [e12]
            try simp only [tupAt]
            exact OpOK.skip (by rfl) (fun W' _ => rfl)
          try simp only [Act.put, List.setIfInBounds_toArray, List.set_cons_zero, List.set_cons_succ]
          refine RelO.next (k' := 20) rfl (fun W gW hF => ?_) ?_
          focus
            obtain ⟨h12, h14, h18, _⟩ := hF
            have e12 : val 12 = undef := h12 _ (Frm.refl _ W)
            have e14 : val 14 = undef := h14 _ (Frm.refl _ W)
            have e18 : val 18 = undef := h18 _ (Frm.refl _ W)
            try simp only [e18]
            try simp only [e14]
            try simp only [e12]
            try simp only [tupAt]
            exact OpOK.skip (by rfl) (fun W' _ => rfl)
          try simp only [Act.put, List.setIfInBounds_toArray, List.set_cons_zero, List.set_cons_succ]
          refine RelO.next (k' := 21) rfl (fun W gW hF => ?_) ?_
          focus
            obtain ⟨h12, h19, _⟩ := hF
            have e12 : val 12 = undef := h12 _ (Frm.refl _ W)
            have e19 : val 19 = undef := h19 _ (Frm.refl _ W)
            try simp only [e19]
            try simp only [e12]
            try simp only [tupAt]
            exact OpOK.skip (by rfl) (fun W' _ => rfl)
          try simp only [Act.put, List.setIfInBounds_toArray, List.set_cons_zero, List.set_cons_succ]
          refine RelO.next (k' := 22) rfl (fun W gW hF => ?_) ?_
          focus
            obtain ⟨h12, h20, _⟩ := hF
            have e12 : val 12 = undef := h12 _ (Frm.refl _ W)
            have e20 : val 20 = undef := h20 _ (Frm.refl _ W)
            try simp only [e20]
            try simp only [e12]
            try simp only [tupAt]
            exact OpOK.skip (by rfl) (fun W' _ => rfl)
          try simp only [Act.put, List.setIfInBounds_toArray, List.set_cons_zero, List.set_cons_succ]
          refine RelO.next (k' := 23) rfl (fun W gW hF => ?_) ?_
          focus
            obtain ⟨h12, _⟩ := hF
            have e12 : val 12 = undef := h12 _ (Frm.refl _ W)
            try simp only [e12]
            try simp only [tupAt]
            exact OpOK.skip (by rfl) (fun W' _ => rfl)
          try simp only [Act.put, List.setIfInBounds_toArray, List.set_cons_zero, List.set_cons_succ]
          refine RelO.next (k' := 24) rfl (fun W gW hF => ?_) ?_
          focus
            obtain ⟨h12, h21, h22, _⟩ := hF
            have e12 : val 12 = undef := h12 _ (Frm.refl _ W)
            have e21 : val 21 = undef := h21 _ (Frm.refl _ W)
            have e22 : val 22 = undef := h22 _ (Frm.refl _ W)
            try simp only [e22]
            try simp only [e21]
            try simp only [e12]
            try simp only [tupAt]
            exact OpOK.skip (by rfl) (fun W' _ => rfl)
          try simp only [Act.put, List.setIfInBounds_toArray, List.set_cons_zero, List.set_cons_succ]
          refine RelO.next (k' := 25) rfl (fun W gW hF => ?_) ?_
          focus
            obtain ⟨h7, h12, h23, _⟩ := hF
            have e7 : val 7 = .bool false := h7 _ (Frm.refl _ W)
            have e12 : val 12 = undef := h12 _ (Frm.refl _ W)
            have e23 : val 23 = undef := h23 _ (Frm.refl _ W)
            try simp only [e23]
            try simp only [e12]
            try simp only [e7]
            try simp only [tupAt]
            exact OpOK.skip (by rfl) (fun W' _ => rfl)
          try simp only [Act.put, List.setIfInBounds_toArray, List.set_cons_zero, List.set_cons_succ]
          refine RelO.next (k' := 26) rfl (fun W gW hF => ?_) ?_
          focus
            obtain ⟨h7, h24, _⟩ := hF
            have e7 : val 7 = .bool false := h7 _ (Frm.refl _ W)
            have e24 : val 24 = undef := h24 _ (Frm.refl _ W)
            try simp only [e24]
            try simp only [e7]
            try simp only [tupAt]
            exact OpOK.skip (by rfl) (fun W' _ => rfl)
          try simp only [Act.put, List.setIfInBounds_toArray, List.set_cons_zero, List.set_cons_succ]
          refine RelO.next (k' := 27) rfl (fun W gW hF => ?_) ?_
          focus
            obtain ⟨h25, _⟩ := hF
            have e25 : val 25 = undef := h25 _ (Frm.refl _ W)
            try simp only [e25]
            try simp only [tupAt]
            exact OpOK.skip (by rfl) (fun W' _ => rfl)
          try simp only [Act.put, List.setIfInBounds_toArray, List.set_cons_zero, List.set_cons_succ]
          refine RelO.next (k' := 28) rfl (fun W gW hF => ?_) ?_
          focus
            obtain ⟨h25, h26, _⟩ := hF
            have e25 : val 25 = undef := h25 _ (Frm.refl _ W)
            have e26 : val 26 = undef := h26 _ (Frm.refl _ W)
            try simp only [e26]
            try simp only [e25]
            try simp only [tupAt]
            exact OpOK.skip (by rfl) (fun W' _ => rfl)
          try simp only [Act.put, List.setIfInBounds_toArray, List.set_cons_zero, List.set_cons_succ]
          refine RelO.next (k' := 29) rfl (fun W gW hF => ?_) ?_
          focus
            obtain ⟨h25, _⟩ := hF
            have e25 : val 25 = undef := h25 _ (Frm.refl _ W)
            try simp only [e25]
            try simp only [tupAt]
            exact OpOK.skip (by rfl) (fun W' _ => rfl)
          try simp only [Act.put, List.setIfInBounds_toArray, List.set_cons_zero, List.set_cons_succ]
          refine RelO.next (k' := 30) rfl (fun W gW hF => ?_) ?_
          focus
            obtain ⟨h25, h28, _⟩ := hF
            have e25 : val 25 = undef := h25 _ (Frm.refl _ W)
            have e28 : val 28 = undef := h28 _ (Frm.refl _ W)
            try simp only [e28]
            try simp only [e25]
            try simp only [tupAt]
            exact OpOK.skip (by rfl) (fun W' _ => rfl)
          try simp only [Act.put, List.setIfInBounds_toArray, List.set_cons_zero, List.set_cons_succ]
          refine RelO.next (k' := 31) rfl (fun W gW hF => ?_) ?_
          focus
            obtain ⟨h25, h29, _⟩ := hF
            have e25 : val 25 = undef := h25 _ (Frm.refl _ W)
            have e29 : val 29 = undef := h29 _ (Frm.refl _ W)
            try simp only [e29]
            try simp only [e25]
            try simp only [tupAt]
            exact OpOK.skip (by rfl) (fun W' _ => rfl)
          try simp only [Act.put, List.setIfInBounds_toArray, List.set_cons_zero, List.set_cons_succ]
          refine RelO.next (k' := 32) rfl (fun W gW hF => ?_) ?_
          focus
            obtain ⟨h25, h30, _⟩ := hF
            have e25 : val 25 = undef := h25 _ (Frm.refl _ W)
            have e30 : val 30 = undef := h30 _ (Frm.refl _ W)
            try simp only [e30]
            try simp only [e25]
            try simp only [tupAt]
            exact OpOK.skip (by rfl) (fun W' _ => rfl)
          try simp only [Act.put, List.setIfInBounds_toArray, List.set_cons_zero, List.set_cons_succ]
          refine RelO.next (k' := 33) rfl (fun W gW hF => ?_) ?_
          focus
            obtain ⟨h25, h27, h31, _⟩ := hF
            have e25 : val 25 = undef := h25 _ (Frm.refl _ W)
            have e27 : val 27 = undef := h27 _ (Frm.refl _ W)
            have e31 : val 31 = undef := h31 _ (Frm.refl _ W)
            try simp only [e31]
            try simp only [e27]
            try simp only [e25]
            try simp only [tupAt]
            exact OpOK.skip (by rfl) (fun W' _ => rfl)
          try simp only [Act.put, List.setIfInBounds_toArray, List.set_cons_zero, List.set_cons_succ]
          refine RelO.next (k' := 34) rfl (fun W gW hF => ?_) ?_
          focus
            obtain ⟨h25, h32, _⟩ := hF
            have e25 : val 25 = undef := h25 _ (Frm.refl _ W)
            have e32 : val 32 = undef := h32 _ (Frm.refl _ W)
            try simp only [e32]
            try simp only [e25]
            try simp only [tupAt]
            exact OpOK.skip (by rfl) (fun W' _ => rfl)
          try simp only [Act.put, List.setIfInBounds_toArray, List.set_cons_zero, List.set_cons_succ]
          refine RelO.next (k' := 35) rfl (fun W gW hF => ?_) ?_
          focus
            obtain ⟨h25, h33, _⟩ := hF
            have e25 : val 25 = undef := h25 _ (Frm.refl _ W)
            have e33 : val 33 = undef := h33 _ (Frm.refl _ W)
            try simp only [e33]
            try simp only [e25]
            try simp only [tupAt]
            exact OpOK.skip (by rfl) (fun W' _ => rfl)
          try simp only [Act.put, List.setIfInBounds_toArray, List.set_cons_zero, List.set_cons_succ]
          refine RelO.next (k' := 36) rfl (fun W gW hF => ?_) ?_
          focus
            obtain ⟨h25, _⟩ := hF
            have e25 : val 25 = undef := h25 _ (Frm.refl _ W)
            try simp only [e25]
            try simp only [tupAt]
            exact OpOK.skip (by rfl) (fun W' _ => rfl)
          try simp only [Act.put, List.setIfInBounds_toArray, List.set_cons_zero, List.set_cons_succ]
          refine RelO.next (k' := 37) rfl (fun W gW hF => ?_) ?_
          focus
            obtain ⟨h25, _⟩ := hF
            have e25 : val 25 = undef := h25 _ (Frm.refl _ W)
            try simp only [e25]
            try simp only [tupAt]
            exact OpOK.skip (by rfl) (fun W' _ => rfl)
          try simp only [Act.put, List.setIfInBounds_toArray, List.set_cons_zero, List.set_cons_succ]
          refine RelO.next (k' := 38) rfl (fun W gW hF => ?_) ?_
          focus
            obtain ⟨h25, h35, h36, _⟩ := hF
            have e25 : val 25 = undef := h25 _ (Frm.refl _ W)
            have e35 : val 35 = undef := h35 _ (Frm.refl _ W)
            have e36 : val 36 = undef := h36 _ (Frm.refl _ W)
            try simp only [e36]
            try simp only [e35]
            try simp only [e25]
            try simp only [tupAt]
            exact OpOK.skip (by rfl) (fun W' _ => rfl)
          try simp only [Act.put, List.setIfInBounds_toArray, List.set_cons_zero, List.set_cons_succ]
          refine RelO.next (k' := 39) rfl (fun W gW hF => ?_) ?_
          focus
            obtain ⟨h25, h37, _⟩ := hF
            have e25 : val 25 = undef := h25 _ (Frm.refl _ W)
            have e37 : val 37 = undef := h37 _ (Frm.refl _ W)
            try simp only [e37]
            try simp only [e25]
            try simp only [tupAt]
            exact OpOK.skip (by rfl) (fun W' _ => rfl)
          try simp only [Act.put, List.setIfInBounds_toArray, List.set_cons_zero, List.set_cons_succ]
          refine RelO.next (k' := 40) rfl (fun W gW hF => ?_) ?_
          focus
            obtain ⟨h25, h38, _⟩ := hF
            have e25 : val 25 = undef := h25 _ (Frm.refl _ W)
            have e38 : val 38 = undef := h38 _ (Frm.refl _ W)
            try simp only [e38]
            try simp only [e25]
            try simp only [tupAt]
            exact OpOK.skip (by rfl) (fun W' _ => rfl)
          try simp only [Act.put, List.setIfInBounds_toArray, List.set_cons_zero, List.set_cons_succ]
          refine RelO.next (k' := 41) rfl (fun W gW hF => ?_) ?_
          focus
            obtain ⟨h25, h34, h39, _⟩ := hF
            have e25 : val 25 = undef := h25 _ (Frm.refl _ W)
            have e34 : val 34 = undef := h34 _ (Frm.refl _ W)
            have e39 : val 39 = undef := h39 _ (Frm.refl _ W)
            try simp only [e39]
            try simp only [e34]
            try simp only [e25]
            try simp only [tupAt]
            exact OpOK.skip (by rfl) (fun W' _ => rfl)
          try simp only [Act.put, List.setIfInBounds_toArray, List.set_cons_zero, List.set_cons_succ]
          refine RelO.next (k' := 42) rfl (fun W gW hF => ?_) ?_
          focus
            obtain ⟨h7, h25, h40, _⟩ := hF
            have e7 : val 7 = .bool false := h7 _ (Frm.refl _ W)
            have e25 : val 25 = undef := h25 _ (Frm.refl _ W)
            have e40 : val 40 = undef := h40 _ (Frm.refl _ W)
            try simp only [e40]
            try simp only [e25]
            try simp only [e7]
            try simp only [tupAt]
            exact OpOK.skip (by rfl) (fun W' _ => rfl)
          try simp only [Act.put, List.setIfInBounds_toArray, List.set_cons_zero, List.set_cons_succ]
          refine RelO.next (k' := 43) rfl (fun W gW hF => ?_) ?_
          focus
            obtain ⟨h7, h41, _⟩ := hF
            have e7 : val 7 = .bool false := h7 _ (Frm.refl _ W)
            have e41 : val 41 = undef := h41 _ (Frm.refl _ W)
            try simp only [e41]
            try simp only [e7]
            try simp only [tupAt]
            refine OpOK.val (u := .bool false) (by rfl) ?_ (fun W' _ => rfl)
            try simp only [e41]
            try simp only [e7]
            try simp only [tupAt]
            first | (go_simp; done) | (go_simp; with_reducible rfl) | (go_simp; rfl)
          try simp only [Act.put, List.setIfInBounds_toArray, List.set_cons_zero, List.set_cons_succ]
          exact RelO.nil
        intro val w5 gW hF
        obtain ⟨h0, h1, h2, h3, h4, h5, h6, h7, h8, h9, h10, h11, h12, h13, h14, h15, h16, h17, h18, h19, h20, h21, h22, h23, h24, h25, h26, h27, h28, h29, h30, h31, h32, h33, h34, h35, h36, h37, h38, h39, h40, h41, h42, hT⟩ := hF
        have e0 : val 0 = .slice (some ⟨g, off, none⟩) n cap := h0 _ (Frm.refl _ w5)
        have e1 : val 1 = .int .i64 (k : Int) := h1 _ (Frm.refl _ w5)
        have e2 : val 2 = .pointer (some ⟨g, off + k * 5, none⟩) := h2 _ (Frm.refl _ w5)
        have e3 : val 3 = .pointer (some ⟨g, off + k * 5, none⟩) := h3 _ (Frm.refl _ w5)
        have e4 : val 4 = .int .u8 (x.k : Int) := h4 _ (Frm.refl _ w5)
        have e5 : val 5 = .int .u8 (m : Int) := h5 _ (Frm.refl _ w5)
        have e6 : val 6 = .bool false := h6 _ (Frm.refl _ w5)
        have e7 : val 7 = .bool false := h7 _ (Frm.refl _ w5)
        have e8 : val 8 = undef := h8 _ (Frm.refl _ w5)
        have e9 : val 9 = undef := h9 _ (Frm.refl _ w5)
        have e10 : val 10 = undef := h10 _ (Frm.refl _ w5)
        have e11 : val 11 = undef := h11 _ (Frm.refl _ w5)
        have e12 : val 12 = undef := h12 _ (Frm.refl _ w5)
        have e13 : val 13 = undef := h13 _ (Frm.refl _ w5)
        have e14 : val 14 = undef := h14 _ (Frm.refl _ w5)
        have e15 : val 15 = undef := h15 _ (Frm.refl _ w5)
        have e16 : val 16 = undef := h16 _ (Frm.refl _ w5)
        have e17 : val 17 = undef := h17 _ (Frm.refl _ w5)
        have e18 : val 18 = undef := h18 _ (Frm.refl _ w5)
        have e19 : val 19 = undef := h19 _ (Frm.refl _ w5)
        have e20 : val 20 = undef := h20 _ (Frm.refl _ w5)
        have e21 : val 21 = undef := h21 _ (Frm.refl _ w5)
        have e22 : val 22 = undef := h22 _ (Frm.refl _ w5)
        have e23 : val 23 = undef := h23 _ (Frm.refl _ w5)
        have e24 : val 24 = undef := h24 _ (Frm.refl _ w5)
        have e25 : val 25 = undef := h25 _ (Frm.refl _ w5)
        have e26 : val 26 = undef := h26 _ (Frm.refl _ w5)
        have e27 : val 27 = undef := h27 _ (Frm.refl _ w5)
        have e28 : val 28 = undef := h28 _ (Frm.refl _ w5)
        have e29 : val 29 = undef := h29 _ (Frm.refl _ w5)
        have e30 : val 30 = undef := h30 _ (Frm.refl _ w5)
        have e31 : val 31 = undef := h31 _ (Frm.refl _ w5)
        have e32 : val 32 = undef := h32 _ (Frm.refl _ w5)
        have e33 : val 33 = undef := h33 _ (Frm.refl _ w5)
        have e34 : val 34 = undef := h34 _ (Frm.refl _ w5)
        have e35 : val 35 = undef := h35 _ (Frm.refl _ w5)
        have e36 : val 36 = undef := h36 _ (Frm.refl _ w5)
        have e37 : val 37 = undef := h37 _ (Frm.refl _ w5)
        have e38 : val 38 = undef := h38 _ (Frm.refl _ w5)
        have e39 : val 39 = undef := h39 _ (Frm.refl _ w5)
        have e40 : val 40 = undef := h40 _ (Frm.refl _ w5)
        have e41 : val 41 = undef := h41 _ (Frm.refl _ w5)
        have e42 : val 42 = .bool false := h42 _ (Frm.refl _ w5)
        clear hT h0 h1 h2 h3 h4 h5 h6 h7 h8 h9 h10 h11 h12 h13 h14 h15 h16 h17 h18 h19 h20 h21 h22 h23 h24 h25 h26 h27 h28 h29 h30 h31 h32 h33 h34 h35 h36 h37 h38 h39 h40 h41 h42
        simp only [aO, Act.put, List.setIfInBounds_toArray, List.set_cons_zero, List.set_cons_succ, Nat.reduceAdd]
        try simp only [e42]
        try simp only [e41]
        try simp only [e40]
        try simp only [e39]
        try simp only [e38]
        try simp only [e37]
        try simp only [e36]
        try simp only [e35]
        try simp only [e34]
        try simp only [e33]
        try simp only [e32]
        try simp only [e31]
        try simp only [e30]
        try simp only [e29]
        try simp only [e28]
        try simp only [e27]
        try simp only [e26]
        try simp only [e25]
        try simp only [e24]
        try simp only [e23]
        try simp only [e22]
        try simp only [e21]
        try simp only [e20]
        try simp only [e19]
        try simp only [e18]
        try simp only [e17]
        try simp only [e16]
        try simp only [e15]
        try simp only [e14]
        try simp only [e13]
        try simp only [e12]
        try simp only [e11]
        try simp only [e10]
        try simp only [e9]
        try simp only [e8]
        try simp only [e7]
        try simp only [e6]
        try simp only [e5]
        try simp only [e4]
        try simp only [e3]
        try simp only [e2]
        try simp only [e1]
        try simp only [e0]
        try simp only [tupAt]
        refine wpTail.doneN ?_
        refine hK _ _ ?_
        have g5 := D.trans gW
        clear gW D hK HML HMT e0 e1 e2 e3 e4 e5 e6 e7 e8 e9 e10 e11 e12 e13 e14 e15 e16 e17 e18 e19 e20 e21 e22 e23 e24 e25 e26 e27 e28 e29 e30 e31 e32 e33 e34 e35 e36 e37 e38 e39 e40 e41 e42
        replace HJW := Hid.grow HJW g5
        replace H6 := Hid.grow H6 g5
        clear H7 HXC g5
        have lR := load_reg (H6.out w5 (Frm.refl _ w5)).1
        have HT := Lib.hid ((HJW.out w5 (Frm.refl _ w5)).all.there hr)
        have HON := Lib.hid (rg_oneS (H6.out w5 (Frm.refl _ w5)).2 f1)
        have HJ5 := Lib.hid ((HJW.out w5 (Frm.refl _ w5)).act hr (H6.out w5 (Frm.refl _ w5)).2 HN1.out HE1.out HAe.out)
        clear HJW H6 HN1 HE1 HO
        go_upto_region 13 with (first
          | ((with_reducible refine wpl_load rfl _ rfl ?_ lR ?_); (focus rfl))
          | ((with_reducible refine Go.wpList_store_mid rfl 39 _ _ rfl A (r * 9) (rgc f1 v1) ?_ ?_ ?_ ?_ ?_ ?_); (focus rfl); (focus rfl); (focus (exact HT.out)); (focus (show _ = some 9; kernel_rfl)); (focus (exact HON.out))))
        clear lR HT HON
        generalize w5.setCells A (r * 9) (rgc f1 v1).toList = w6 at *
        generalize setF F r f1 = F at HJ5
        generalize setF V r v1 = V at HJ5
        generalize setF L r l1 = L at HJ5
        go_upto_region 14 with fail
        go_loopw [10] (fun i wr => ∃ q : Nat, q ≤ 4 ∧ i = .int .i64 q ∧ Frm (fun _ => False) w6 wr) (fun i _ => 4 - (intOf i).toNat)
        case atStart => exact ⟨0, by omega, rfl, Frm.refl _ _⟩
        case round =>
          obtain ⟨q, hq, rfl, gq⟩ := hrel
          have HJ : Hid (∀ W, Frm (fun _ => False) wr W → JS w A W E' F V L) := Lib.hid fun W g => HJ5.out.keep (gq.trans g)
          by_cases hq4 : q < 4
          · have hqi : (q : Int) < 4 := by omega
            have hqi0 : (0 : Int) ≤ (q : Int) := by omega
            have HCK : Hid (chkS (F q) (L q) = 0) := Lib.hid (by unfold chkS; rw [HJ5.out.hist.ok q hq4]; rfl)
            cases hb : eq8 (F q) (F r)
            case true =>
              have HEB : Hid ((eq8 (F q) (F r) && decide (L q = L r)) = true) := Lib.hid (by rw [hb, HJ5.out.hist.same hq4 hr hb]; simp)
              have HEV : Hid (∀ W, (Op.equalIn 10000 24 (.agg (vv (F q))) (.agg (vv (F r)))).run Try.prog W = .ok true W) := Lib.hid fun W => by rw [run_eq_vec, hb]
              clear hb
              go_upto_region 16 with fail
              rename_i hK
              have D : Frm (fun _ => False) wr wr.drew := (Frm.refl _ _).drew
              refine wp_region_late 24 0 [] [[], [0], [1], [2], [3], [4], [5], [5, 6], [5, 7], [5, 8], [5], [5, 10], [5, 11], [5, 12], [5, 9, 13], [5], [5, 15], [5, 16], [5], [5, 18], [5, 19], [5, 17, 20], [5, 14, 21], [5, 22]] ss16tM (ss16tR A r q F V) (by kernel_rfl) rfl rfl rfl (by kernel_rfl) (by kernel_rfl) (by kernel_rfl) (by kernel_rfl) rfl (by kernel_rfl) (by kernel_rfl) (by kernel_rfl) (by kernel_rfl) (fun val => ?_) ?_
              · try dsimp only
                refine RelO.next (k' := 1) rfl (fun W gW hF => ?_) ?_
                focus
                  refine OpOK.val (u := .int .i64 (q : Int)) (by rfl) ?_ (fun W' _ => rfl)
                  try simp only [tupAt]
                  first | (go_simp; done) | (go_simp; with_reducible rfl) | (go_simp; rfl)
                try simp only [Act.put, List.setIfInBounds_toArray, List.set_cons_zero, List.set_cons_succ]
                refine RelO.next (k' := 2) rfl (fun W gW hF => ?_) ?_
                focus
                  obtain ⟨h0, _⟩ := hF
                  have e0 : val 0 = .int .i64 (q : Int) := h0 _ (Frm.refl _ W)
                  try simp only [e0]
                  try simp only [tupAt]
                  refine OpOK.val (u := .pointer (some ⟨A, q * 9, none⟩)) (by rfl) ?_ (fun W' _ => rfl)
                  try simp only [e0]
                  try simp only [tupAt]
                  first | (go_simp; done) | (go_simp; with_reducible rfl) | (go_simp; rfl)
                try simp only [Act.put, List.setIfInBounds_toArray, List.set_cons_zero, List.set_cons_succ]
                refine RelO.next (k' := 3) rfl (fun W gW hF => ?_) ?_
                focus
                  obtain ⟨h1, _⟩ := hF
                  have e1 : val 1 = .pointer (some ⟨A, q * 9, none⟩) := h1 _ (Frm.refl _ W)
                  try simp only [e1]
                  try simp only [tupAt]
                  exact OpOK.load (by rfl) _ rfl (by rfl) ((HJ.out W (D.trans gW)).all.load hq4) (fun W' _ => rfl)
                try simp only [Act.put, List.setIfInBounds_toArray, List.set_cons_zero, List.set_cons_succ]
                refine RelO.next (k' := 4) rfl (fun W gW hF => ?_) ?_
                focus
                  obtain ⟨h2, _⟩ := hF
                  have e2 : val 2 = rg (F q) (V q) := h2 _ (Frm.refl _ W)
                  try simp only [e2]
                  try simp only [tupAt]
                  refine OpOK.call (by rfl) ?_ ((check_any (F q) (V q) (L q) W ((HJ.out W (D.trans gW)).hist.fit q hq4) ((HJ.out W (D.trans gW)).sl q hq4) (by have := (HJ.out W (D.trans gW)).hist.few q hq4; omega)).mono ?_)
                  · first | (go_simp; done) | (go_simp; with_reducible rfl) | (go_simp; rfl)
                  · rintro e W1 ⟨he, g1⟩
                    rw [HCK.out] at he
                    subst he
                    exact ⟨_, rfl, g1, fun W2 _ => rfl⟩
                try simp only [Act.put, List.setIfInBounds_toArray, List.set_cons_zero, List.set_cons_succ]
                refine RelO.next (k' := 5) rfl (fun W gW hF => ?_) ?_
                focus
                  obtain ⟨h3, _⟩ := hF
                  have e3 : val 3 = .int .i64 0 := h3 _ (Frm.refl _ W)
                  try simp only [e3]
                  try simp only [tupAt]
                  refine OpOK.val (u := .bool false) (by rfl) ?_ (fun W' _ => rfl)
                  try simp only [e3]
                  try simp only [tupAt]
                  first | (go_simp; done) | (go_simp; with_reducible rfl) | (go_simp; rfl)
                try simp only [Act.put, List.setIfInBounds_toArray, List.set_cons_zero, List.set_cons_succ]
                refine RelO.next (k' := 6) rfl (fun W gW hF => ?_) ?_
                focus
                  obtain ⟨h4, _⟩ := hF
                  have e4 : val 4 = .bool false := h4 _ (Frm.refl _ W)
                  try simp only [e4]
                  try simp only [tupAt]
                  refine OpOK.val (u := .bool false) (by rfl) ?_ (fun W' _ => rfl)
                  try simp only [e4]
                  try simp only [tupAt]
                  first | (go_simp; done) | (go_simp; with_reducible rfl) | (go_simp; rfl)
                try simp only [Act.put, List.setIfInBounds_toArray, List.set_cons_zero, List.set_cons_succ]
                refine RelO.next (k' := 7) rfl (fun W gW hF => ?_) ?_
                focus
                  obtain ⟨h5, _⟩ := hF
                  have e5 : val 5 = .bool false := h5 _ (Frm.refl _ W)
                  try simp only [e5]
                  try simp only [tupAt]
                  refine OpOK.val (u := .int .i64 (q : Int)) (by rfl) ?_ (fun W' _ => rfl)
                  try simp only [e5]
                  try simp only [tupAt]
                  first | (go_simp; done) | (go_simp; with_reducible rfl) | (go_simp; rfl)
                try simp only [Act.put, List.setIfInBounds_toArray, List.set_cons_zero, List.set_cons_succ]
                refine RelO.next (k' := 8) rfl (fun W gW hF => ?_) ?_
                focus
                  obtain ⟨h5, h6, _⟩ := hF
                  have e5 : val 5 = .bool false := h5 _ (Frm.refl _ W)
                  have e6 : val 6 = .int .i64 (q : Int) := h6 _ (Frm.refl _ W)
                  try simp only [e6]
                  try simp only [e5]
                  try simp only [tupAt]
                  refine OpOK.val (u := .pointer (some ⟨A, q * 9, none⟩)) (by rfl) ?_ (fun W' _ => rfl)
                  try simp only [e6]
                  try simp only [e5]
                  try simp only [tupAt]
                  first | (go_simp; done) | (go_simp; with_reducible rfl) | (go_simp; rfl)
                try simp only [Act.put, List.setIfInBounds_toArray, List.set_cons_zero, List.set_cons_succ]
                refine RelO.next (k' := 9) rfl (fun W gW hF => ?_) ?_
                focus
                  obtain ⟨h5, h7, _⟩ := hF
                  have e5 : val 5 = .bool false := h5 _ (Frm.refl _ W)
                  have e7 : val 7 = .pointer (some ⟨A, q * 9, none⟩) := h7 _ (Frm.refl _ W)
                  try simp only [e7]
                  try simp only [e5]
                  try simp only [tupAt]
                  refine OpOK.val (u := .pointer (some ⟨A, q * 9, none⟩)) (by rfl) ?_ (fun W' _ => rfl)
                  try simp only [e7]
                  try simp only [e5]
                  try simp only [tupAt]
                  first | (go_simp; done) | (go_simp; with_reducible rfl) | (go_simp; rfl)
                try simp only [Act.put, List.setIfInBounds_toArray, List.set_cons_zero, List.set_cons_succ]
                refine RelO.next (k' := 10) rfl (fun W gW hF => ?_) ?_
                focus
                  obtain ⟨h5, h8, _⟩ := hF
                  have e5 : val 5 = .bool false := h5 _ (Frm.refl _ W)
                  have e8 : val 8 = .pointer (some ⟨A, q * 9, none⟩) := h8 _ (Frm.refl _ W)
                  try simp only [e8]
                  try simp only [e5]
                  try simp only [tupAt]
                  exact OpOK.load (by rfl) _ rfl (by rfl) ((HJ.out W (D.trans gW)).all.ctx hq4) (fun W' _ => rfl)
                try simp only [Act.put, List.setIfInBounds_toArray, List.set_cons_zero, List.set_cons_succ]
                refine RelO.next (k' := 11) rfl (fun W gW hF => ?_) ?_
                focus
                  obtain ⟨h5, _⟩ := hF
                  have e5 : val 5 = .bool false := h5 _ (Frm.refl _ W)
                  try simp only [e5]
                  try simp only [tupAt]
                  refine OpOK.val (u := .int .i64 (r : Int)) (by rfl) ?_ (fun W' _ => rfl)
                  try simp only [e5]
                  try simp only [tupAt]
                  first | (go_simp; done) | (go_simp; with_reducible rfl) | (go_simp; rfl)
                try simp only [Act.put, List.setIfInBounds_toArray, List.set_cons_zero, List.set_cons_succ]
                refine RelO.next (k' := 12) rfl (fun W gW hF => ?_) ?_
                focus
                  obtain ⟨h5, h10, _⟩ := hF
                  have e5 : val 5 = .bool false := h5 _ (Frm.refl _ W)
                  have e10 : val 10 = .int .i64 (r : Int) := h10 _ (Frm.refl _ W)
                  try simp only [e10]
                  try simp only [e5]
                  try simp only [tupAt]
                  refine OpOK.val (u := .pointer (some ⟨A, r * 9, none⟩)) (by rfl) ?_ (fun W' _ => rfl)
                  try simp only [e10]
                  try simp only [e5]
                  try simp only [tupAt]
                  first | (go_simp; done) | (go_simp; with_reducible rfl) | (go_simp; rfl)
                try simp only [Act.put, List.setIfInBounds_toArray, List.set_cons_zero, List.set_cons_succ]
                refine RelO.next (k' := 13) rfl (fun W gW hF => ?_) ?_
                focus
                  obtain ⟨h5, h11, _⟩ := hF
                  have e5 : val 5 = .bool false := h5 _ (Frm.refl _ W)
                  have e11 : val 11 = .pointer (some ⟨A, r * 9, none⟩) := h11 _ (Frm.refl _ W)
                  try simp only [e11]
                  try simp only [e5]
                  try simp only [tupAt]
                  refine OpOK.val (u := .pointer (some ⟨A, r * 9, none⟩)) (by rfl) ?_ (fun W' _ => rfl)
                  try simp only [e11]
                  try simp only [e5]
                  try simp only [tupAt]
                  first | (go_simp; done) | (go_simp; with_reducible rfl) | (go_simp; rfl)
                try simp only [Act.put, List.setIfInBounds_toArray, List.set_cons_zero, List.set_cons_succ]
                refine RelO.next (k' := 14) rfl (fun W gW hF => ?_) ?_
                focus
                  obtain ⟨h5, h12, _⟩ := hF
                  have e5 : val 5 = .bool false := h5 _ (Frm.refl _ W)
                  have e12 : val 12 = .pointer (some ⟨A, r * 9, none⟩) := h12 _ (Frm.refl _ W)
                  try simp only [e12]
                  try simp only [e5]
                  try simp only [tupAt]
                  exact OpOK.load (by rfl) _ rfl (by rfl) ((HJ.out W (D.trans gW)).all.ctx hr) (fun W' _ => rfl)
                try simp only [Act.put, List.setIfInBounds_toArray, List.set_cons_zero, List.set_cons_succ]
                refine RelO.next (k' := 15) rfl (fun W gW hF => ?_) ?_
                focus
                  obtain ⟨h5, h9, h13, _⟩ := hF
                  have e5 : val 5 = .bool false := h5 _ (Frm.refl _ W)
                  have e9 : val 9 = .agg (vv (F q)) := h9 _ (Frm.refl _ W)
                  have e13 : val 13 = .agg (vv (F r)) := h13 _ (Frm.refl _ W)
                  try simp only [e13]
                  try simp only [e9]
                  try simp only [e5]
                  try simp only [tupAt]
                  have E := HEV.out
                  exact OpOK.val (u := .bool true) (by rfl) (by first | (go_simp; done) | (go_simp; with_reducible rfl) | (go_simp; rfl)) (fun W' _ => rfl)
                try simp only [Act.put, List.setIfInBounds_toArray, List.set_cons_zero, List.set_cons_succ]
                refine RelO.next (k' := 16) rfl (fun W gW hF => ?_) ?_
                focus
                  obtain ⟨h5, _⟩ := hF
                  have e5 : val 5 = .bool false := h5 _ (Frm.refl _ W)
                  try simp only [e5]
                  try simp only [tupAt]
                  refine OpOK.val (u := .int .i64 (q : Int)) (by rfl) ?_ (fun W' _ => rfl)
                  try simp only [e5]
                  try simp only [tupAt]
                  first | (go_simp; done) | (go_simp; with_reducible rfl) | (go_simp; rfl)
                try simp only [Act.put, List.setIfInBounds_toArray, List.set_cons_zero, List.set_cons_succ]
                refine RelO.next (k' := 17) rfl (fun W gW hF => ?_) ?_
                focus
                  obtain ⟨h5, h15, _⟩ := hF
                  have e5 : val 5 = .bool false := h5 _ (Frm.refl _ W)
                  have e15 : val 15 = .int .i64 (q : Int) := h15 _ (Frm.refl _ W)
                  try simp only [e15]
                  try simp only [e5]
                  try simp only [tupAt]
                  refine OpOK.val (u := .pointer (some ⟨A, q * 9, none⟩)) (by rfl) ?_ (fun W' _ => rfl)
                  try simp only [e15]
                  try simp only [e5]
                  try simp only [tupAt]
                  first | (go_simp; done) | (go_simp; with_reducible rfl) | (go_simp; rfl)
                try simp only [Act.put, List.setIfInBounds_toArray, List.set_cons_zero, List.set_cons_succ]
                refine RelO.next (k' := 18) rfl (fun W gW hF => ?_) ?_
                focus
                  obtain ⟨h5, h16, _⟩ := hF
                  have e5 : val 5 = .bool false := h5 _ (Frm.refl _ W)
                  have e16 : val 16 = .pointer (some ⟨A, q * 9, none⟩) := h16 _ (Frm.refl _ W)
                  try simp only [e16]
                  try simp only [e5]
                  try simp only [tupAt]
                  exact OpOK.load (by rfl) _ rfl (by rfl) ((HJ.out W (D.trans gW)).all.load hq4) (fun W' _ => rfl)
                try simp only [Act.put, List.setIfInBounds_toArray, List.set_cons_zero, List.set_cons_succ]
                refine RelO.next (k' := 19) rfl (fun W gW hF => ?_) ?_
                focus
                  obtain ⟨h5, _⟩ := hF
                  have e5 : val 5 = .bool false := h5 _ (Frm.refl _ W)
                  try simp only [e5]
                  try simp only [tupAt]
                  refine OpOK.val (u := .int .i64 (r : Int)) (by rfl) ?_ (fun W' _ => rfl)
                  try simp only [e5]
                  try simp only [tupAt]
                  first | (go_simp; done) | (go_simp; with_reducible rfl) | (go_simp; rfl)
                try simp only [Act.put, List.setIfInBounds_toArray, List.set_cons_zero, List.set_cons_succ]
                refine RelO.next (k' := 20) rfl (fun W gW hF => ?_) ?_
                focus
                  obtain ⟨h5, h18, _⟩ := hF
                  have e5 : val 5 = .bool false := h5 _ (Frm.refl _ W)
                  have e18 : val 18 = .int .i64 (r : Int) := h18 _ (Frm.refl _ W)
                  try simp only [e18]
                  try simp only [e5]
                  try simp only [tupAt]
                  refine OpOK.val (u := .pointer (some ⟨A, r * 9, none⟩)) (by rfl) ?_ (fun W' _ => rfl)
                  try simp only [e18]
                  try simp only [e5]
                  try simp only [tupAt]
                  first | (go_simp; done) | (go_simp; with_reducible rfl) | (go_simp; rfl)
                try simp only [Act.put, List.setIfInBounds_toArray, List.set_cons_zero, List.set_cons_succ]
                refine RelO.next (k' := 21) rfl (fun W gW hF => ?_) ?_
                focus
                  obtain ⟨h5, h19, _⟩ := hF
                  have e5 : val 5 = .bool false := h5 _ (Frm.refl _ W)
                  have e19 : val 19 = .pointer (some ⟨A, r * 9, none⟩) := h19 _ (Frm.refl _ W)
                  try simp only [e19]
                  try simp only [e5]
                  try simp only [tupAt]
                  exact OpOK.load (by rfl) _ rfl (by rfl) ((HJ.out W (D.trans gW)).all.load hr) (fun W' _ => rfl)
                try simp only [Act.put, List.setIfInBounds_toArray, List.set_cons_zero, List.set_cons_succ]
                refine RelO.next (k' := 22) rfl (fun W gW hF => ?_) ?_
                focus
                  obtain ⟨h5, h17, h20, _⟩ := hF
                  have e5 : val 5 = .bool false := h5 _ (Frm.refl _ W)
                  have e17 : val 17 = rg (F q) (V q) := h17 _ (Frm.refl _ W)
                  have e20 : val 20 = rg (F r) (V r) := h20 _ (Frm.refl _ W)
                  try simp only [e20]
                  try simp only [e17]
                  try simp only [e5]
                  try simp only [tupAt]
                  refine OpOK.call (by rfl) ?_ ((equal_any (F q) (F r) (V q) (V r) (L q) (L r) W ((HJ.out W (D.trans gW)).sl q hq4) ((HJ.out W (D.trans gW)).sl r hr)).mono ?_)
                  · first | (go_simp; done) | (go_simp; with_reducible rfl) | (go_simp; rfl)
                  · rintro e W1 ⟨he, g1⟩
                    rw [HEB.out] at he
                    subst he
                    exact ⟨_, rfl, g1, fun W2 _ => rfl⟩
                try simp only [Act.put, List.setIfInBounds_toArray, List.set_cons_zero, List.set_cons_succ]
                refine RelO.next (k' := 23) rfl (fun W gW hF => ?_) ?_
                focus
                  obtain ⟨h5, h14, h21, _⟩ := hF
                  have e5 : val 5 = .bool false := h5 _ (Frm.refl _ W)
                  have e14 : val 14 = .bool true := h14 _ (Frm.refl _ W)
                  have e21 : val 21 = .bool true := h21 _ (Frm.refl _ W)
                  try simp only [e21]
                  try simp only [e14]
                  try simp only [e5]
                  try simp only [tupAt]
                  refine OpOK.val (u := .bool false) (by rfl) ?_ (fun W' _ => rfl)
                  try simp only [e21]
                  try simp only [e14]
                  try simp only [e5]
                  try simp only [tupAt]
                  first | (go_simp; done) | (go_simp; with_reducible rfl) | (go_simp; rfl)
                try simp only [Act.put, List.setIfInBounds_toArray, List.set_cons_zero, List.set_cons_succ]
                refine RelO.next (k' := 24) rfl (fun W gW hF => ?_) ?_
                focus
                  obtain ⟨h5, h22, _⟩ := hF
                  have e5 : val 5 = .bool false := h5 _ (Frm.refl _ W)
                  have e22 : val 22 = .bool false := h22 _ (Frm.refl _ W)
                  try simp only [e22]
                  try simp only [e5]
                  try simp only [tupAt]
                  refine OpOK.val (u := .bool false) (by rfl) ?_ (fun W' _ => rfl)
                  try simp only [e22]
                  try simp only [e5]
                  try simp only [tupAt]
                  first | (go_simp; done) | (go_simp; with_reducible rfl) | (go_simp; rfl)
                try simp only [Act.put, List.setIfInBounds_toArray, List.set_cons_zero, List.set_cons_succ]
                exact RelO.nil
              intro val w7 gW hF
              obtain ⟨h0, h1, h2, h3, h4, h5, h6, h7, h8, h9, h10, h11, h12, h13, h14, h15, h16, h17, h18, h19, h20, h21, h22, h23, hT⟩ := hF
              have e0 : val 0 = .int .i64 (q : Int) := h0 _ (Frm.refl _ w7)
              have e1 : val 1 = .pointer (some ⟨A, q * 9, none⟩) := h1 _ (Frm.refl _ w7)
              have e2 : val 2 = rg (F q) (V q) := h2 _ (Frm.refl _ w7)
              have e3 : val 3 = .int .i64 0 := h3 _ (Frm.refl _ w7)
              have e4 : val 4 = .bool false := h4 _ (Frm.refl _ w7)
              have e5 : val 5 = .bool false := h5 _ (Frm.refl _ w7)
              have e6 : val 6 = .int .i64 (q : Int) := h6 _ (Frm.refl _ w7)
              have e7 : val 7 = .pointer (some ⟨A, q * 9, none⟩) := h7 _ (Frm.refl _ w7)
              have e8 : val 8 = .pointer (some ⟨A, q * 9, none⟩) := h8 _ (Frm.refl _ w7)
              have e9 : val 9 = .agg (vv (F q)) := h9 _ (Frm.refl _ w7)
              have e10 : val 10 = .int .i64 (r : Int) := h10 _ (Frm.refl _ w7)
              have e11 : val 11 = .pointer (some ⟨A, r * 9, none⟩) := h11 _ (Frm.refl _ w7)
              have e12 : val 12 = .pointer (some ⟨A, r * 9, none⟩) := h12 _ (Frm.refl _ w7)
              have e13 : val 13 = .agg (vv (F r)) := h13 _ (Frm.refl _ w7)
              have e14 : val 14 = .bool true := h14 _ (Frm.refl _ w7)
              have e15 : val 15 = .int .i64 (q : Int) := h15 _ (Frm.refl _ w7)
              have e16 : val 16 = .pointer (some ⟨A, q * 9, none⟩) := h16 _ (Frm.refl _ w7)
              have e17 : val 17 = rg (F q) (V q) := h17 _ (Frm.refl _ w7)
              have e18 : val 18 = .int .i64 (r : Int) := h18 _ (Frm.refl _ w7)
              have e19 : val 19 = .pointer (some ⟨A, r * 9, none⟩) := h19 _ (Frm.refl _ w7)
              have e20 : val 20 = rg (F r) (V r) := h20 _ (Frm.refl _ w7)
              have e21 : val 21 = .bool true := h21 _ (Frm.refl _ w7)
              have e22 : val 22 = .bool false := h22 _ (Frm.refl _ w7)
              have e23 : val 23 = .bool false := h23 _ (Frm.refl _ w7)
              clear hT h0 h1 h2 h3 h4 h5 h6 h7 h8 h9 h10 h11 h12 h13 h14 h15 h16 h17 h18 h19 h20 h21 h22 h23
              simp only [aO, Act.put, List.setIfInBounds_toArray, List.set_cons_zero, List.set_cons_succ, Nat.reduceAdd]
              try simp only [e23]
              try simp only [e22]
              try simp only [e21]
              try simp only [e20]
              try simp only [e19]
              try simp only [e18]
              try simp only [e17]
              try simp only [e16]
              try simp only [e15]
              try simp only [e14]
              try simp only [e13]
              try simp only [e12]
              try simp only [e11]
              try simp only [e10]
              try simp only [e9]
              try simp only [e8]
              try simp only [e7]
              try simp only [e6]
              try simp only [e5]
              try simp only [e4]
              try simp only [e3]
              try simp only [e2]
              try simp only [e1]
              try simp only [e0]
              try simp only [tupAt]
              refine wpTail.doneN ?_
              refine hK _ _ ?_
              have HG7 := Lib.hid (gq.trans (D.trans gW))
              clear gW D hK HEB HEV HCK HJ gq e0 e1 e2 e3 e4 e5 e6 e7 e8 e9 e10 e11 e12 e13 e14 e15 e16 e17 e18 e19 e20 e21 e22 e23
              go_wp2_with fail
              go_roundw
              case rel => exact ⟨q + 1, by omega, by go_num, HG7.out⟩
              case measure => simp [intOf]; omega
            case false =>
              have HEB : Hid ((eq8 (F q) (F r) && decide (L q = L r)) = false) := Lib.hid (by rw [hb]; rfl)
              have HEV : Hid (∀ W, (Op.equalIn 10000 24 (.agg (vv (F q))) (.agg (vv (F r)))).run Try.prog W = .ok false W) := Lib.hid fun W => by rw [run_eq_vec, hb]
              clear hb
              go_upto_region 16 with fail
              rename_i hK
              have D : Frm (fun _ => False) wr wr.drew := (Frm.refl _ _).drew
              refine wp_region_late 24 0 [] [[], [0], [1], [2], [3], [4], [5], [5, 6], [5, 7], [5, 8], [5], [5, 10], [5, 11], [5, 12], [5, 9, 13], [5], [5, 15], [5, 16], [5], [5, 18], [5, 19], [5, 17, 20], [5, 14, 21], [5, 22]] ss16fM (ss16fR A r q F V) (by kernel_rfl) rfl rfl rfl (by kernel_rfl) (by kernel_rfl) (by kernel_rfl) (by kernel_rfl) rfl (by kernel_rfl) (by kernel_rfl) (by kernel_rfl) (by kernel_rfl) (fun val => ?_) ?_
              · try dsimp only
                refine RelO.next (k' := 1) rfl (fun W gW hF => ?_) ?_
                focus
                  refine OpOK.val (u := .int .i64 (q : Int)) (by rfl) ?_ (fun W' _ => rfl)
                  try simp only [tupAt]
                  first | (go_simp; done) | (go_simp; with_reducible rfl) | (go_simp; rfl)
                try simp only [Act.put, List.setIfInBounds_toArray, List.set_cons_zero, List.set_cons_succ]
                refine RelO.next (k' := 2) rfl (fun W gW hF => ?_) ?_
                focus
                  obtain ⟨h0, _⟩ := hF
                  have e0 : val 0 = .int .i64 (q : Int) := h0 _ (Frm.refl _ W)
                  try simp only [e0]
                  try simp only [tupAt]
                  refine OpOK.val (u := .pointer (some ⟨A, q * 9, none⟩)) (by rfl) ?_ (fun W' _ => rfl)
                  try simp only [e0]
                  try simp only [tupAt]
                  first | (go_simp; done) | (go_simp; with_reducible rfl) | (go_simp; rfl)
                try simp only [Act.put, List.setIfInBounds_toArray, List.set_cons_zero, List.set_cons_succ]
                refine RelO.next (k' := 3) rfl (fun W gW hF => ?_) ?_
                focus
                  obtain ⟨h1, _⟩ := hF
                  have e1 : val 1 = .pointer (some ⟨A, q * 9, none⟩) := h1 _ (Frm.refl _ W)
                  try simp only [e1]
                  try simp only [tupAt]
                  exact OpOK.load (by rfl) _ rfl (by rfl) ((HJ.out W (D.trans gW)).all.load hq4) (fun W' _ => rfl)
                try simp only [Act.put, List.setIfInBounds_toArray, List.set_cons_zero, List.set_cons_succ]
                refine RelO.next (k' := 4) rfl (fun W gW hF => ?_) ?_
                focus
                  obtain ⟨h2, _⟩ := hF
                  have e2 : val 2 = rg (F q) (V q) := h2 _ (Frm.refl _ W)
                  try simp only [e2]
                  try simp only [tupAt]
                  refine OpOK.call (by rfl) ?_ ((check_any (F q) (V q) (L q) W ((HJ.out W (D.trans gW)).hist.fit q hq4) ((HJ.out W (D.trans gW)).sl q hq4) (by have := (HJ.out W (D.trans gW)).hist.few q hq4; omega)).mono ?_)
                  · first | (go_simp; done) | (go_simp; with_reducible rfl) | (go_simp; rfl)
                  · rintro e W1 ⟨he, g1⟩
                    rw [HCK.out] at he
                    subst he
                    exact ⟨_, rfl, g1, fun W2 _ => rfl⟩
                try simp only [Act.put, List.setIfInBounds_toArray, List.set_cons_zero, List.set_cons_succ]
                refine RelO.next (k' := 5) rfl (fun W gW hF => ?_) ?_
                focus
                  obtain ⟨h3, _⟩ := hF
                  have e3 : val 3 = .int .i64 0 := h3 _ (Frm.refl _ W)
                  try simp only [e3]
                  try simp only [tupAt]
                  refine OpOK.val (u := .bool false) (by rfl) ?_ (fun W' _ => rfl)
                  try simp only [e3]
                  try simp only [tupAt]
                  first | (go_simp; done) | (go_simp; with_reducible rfl) | (go_simp; rfl)
                try simp only [Act.put, List.setIfInBounds_toArray, List.set_cons_zero, List.set_cons_succ]
                refine RelO.next (k' := 6) rfl (fun W gW hF => ?_) ?_
                focus
                  obtain ⟨h4, _⟩ := hF
                  have e4 : val 4 = .bool false := h4 _ (Frm.refl _ W)
                  try simp only [e4]
                  try simp only [tupAt]
                  refine OpOK.val (u := .bool false) (by rfl) ?_ (fun W' _ => rfl)
                  try simp only [e4]
                  try simp only [tupAt]
                  first | (go_simp; done) | (go_simp; with_reducible rfl) | (go_simp; rfl)
                try simp only [Act.put, List.setIfInBounds_toArray, List.set_cons_zero, List.set_cons_succ]
                refine RelO.next (k' := 7) rfl (fun W gW hF => ?_) ?_
                focus
                  obtain ⟨h5, _⟩ := hF
                  have e5 : val 5 = .bool false := h5 _ (Frm.refl _ W)
                  try simp only [e5]
                  try simp only [tupAt]
                  refine OpOK.val (u := .int .i64 (q : Int)) (by rfl) ?_ (fun W' _ => rfl)
                  try simp only [e5]
                  try simp only [tupAt]
                  first | (go_simp; done) | (go_simp; with_reducible rfl) | (go_simp; rfl)
                try simp only [Act.put, List.setIfInBounds_toArray, List.set_cons_zero, List.set_cons_succ]
                refine RelO.next (k' := 8) rfl (fun W gW hF => ?_) ?_
                focus
                  obtain ⟨h5, h6, _⟩ := hF
                  have e5 : val 5 = .bool false := h5 _ (Frm.refl _ W)
                  have e6 : val 6 = .int .i64 (q : Int) := h6 _ (Frm.refl _ W)
                  try simp only [e6]
                  try simp only [e5]
                  try simp only [tupAt]
                  refine OpOK.val (u := .pointer (some ⟨A, q * 9, none⟩)) (by rfl) ?_ (fun W' _ => rfl)
                  try simp only [e6]
                  try simp only [e5]
                  try simp only [tupAt]
                  first | (go_simp; done) | (go_simp; with_reducible rfl) | (go_simp; rfl)
                try simp only [Act.put, List.setIfInBounds_toArray, List.set_cons_zero, List.set_cons_succ]
                refine RelO.next (k' := 9) rfl (fun W gW hF => ?_) ?_
                focus
                  obtain ⟨h5, h7, _⟩ := hF
                  have e5 : val 5 = .bool false := h5 _ (Frm.refl _ W)
                  have e7 : val 7 = .pointer (some ⟨A, q * 9, none⟩) := h7 _ (Frm.refl _ W)
                  try simp only [e7]
                  try simp only [e5]
                  try simp only [tupAt]
                  refine OpOK.val (u := .pointer (some ⟨A, q * 9, none⟩)) (by rfl) ?_ (fun W' _ => rfl)
                  try simp only [e7]
                  try simp only [e5]
                  try simp only [tupAt]
                  first | (go_simp; done) | (go_simp; with_reducible rfl) | (go_simp; rfl)
                try simp only [Act.put, List.setIfInBounds_toArray, List.set_cons_zero, List.set_cons_succ]
                refine RelO.next (k' := 10) rfl (fun W gW hF => ?_) ?_
                focus
                  obtain ⟨h5, h8, _⟩ := hF
                  have e5 : val 5 = .bool false := h5 _ (Frm.refl _ W)
                  have e8 : val 8 = .pointer (some ⟨A, q * 9, none⟩) := h8 _ (Frm.refl _ W)
                  try simp only [e8]
                  try simp only [e5]
                  try simp only [tupAt]
                  exact OpOK.load (by rfl) _ rfl (by rfl) ((HJ.out W (D.trans gW)).all.ctx hq4) (fun W' _ => rfl)
                try simp only [Act.put, List.setIfInBounds_toArray, List.set_cons_zero, List.set_cons_succ]
                refine RelO.next (k' := 11) rfl (fun W gW hF => ?_) ?_
                focus
                  obtain ⟨h5, _⟩ := hF
                  have e5 : val 5 = .bool false := h5 _ (Frm.refl _ W)
                  try simp only [e5]
                  try simp only [tupAt]
                  refine OpOK.val (u := .int .i64 (r : Int)) (by rfl) ?_ (fun W' _ => rfl)
                  try simp only [e5]
                  try simp only [tupAt]
                  first | (go_simp; done) | (go_simp; with_reducible rfl) | (go_simp; rfl)
                try simp only [Act.put, List.setIfInBounds_toArray, List.set_cons_zero, List.set_cons_succ]
                refine RelO.next (k' := 12) rfl (fun W gW hF => ?_) ?_
                focus
                  obtain ⟨h5, h10, _⟩ := hF
                  have e5 : val 5 = .bool false := h5 _ (Frm.refl _ W)
                  have e10 : val 10 = .int .i64 (r : Int) := h10 _ (Frm.refl _ W)
                  try simp only [e10]
                  try simp only [e5]
                  try simp only [tupAt]
                  refine OpOK.val (u := .pointer (some ⟨A, r * 9, none⟩)) (by rfl) ?_ (fun W' _ => rfl)
                  try simp only [e10]
                  try simp only [e5]
                  try simp only [tupAt]
                  first | (go_simp; done) | (go_simp; with_reducible rfl) | (go_simp; rfl)
                try simp only [Act.put, List.setIfInBounds_toArray, List.set_cons_zero, List.set_cons_succ]
                refine RelO.next (k' := 13) rfl (fun W gW hF => ?_) ?_
                focus
                  obtain ⟨h5, h11, _⟩ := hF
                  have e5 : val 5 = .bool false := h5 _ (Frm.refl _ W)
                  have e11 : val 11 = .pointer (some ⟨A, r * 9, none⟩) := h11 _ (Frm.refl _ W)
                  try simp only [e11]
                  try simp only [e5]
                  try simp only [tupAt]
                  refine OpOK.val (u := .pointer (some ⟨A, r * 9, none⟩)) (by rfl) ?_ (fun W' _ => rfl)
                  try simp only [e11]
                  try simp only [e5]
                  try simp only [tupAt]
                  first | (go_simp; done) | (go_simp; with_reducible rfl) | (go_simp; rfl)
                try simp only [Act.put, List.setIfInBounds_toArray, List.set_cons_zero, List.set_cons_succ]
                refine RelO.next (k' := 14) rfl (fun W gW hF => ?_) ?_
                focus
                  obtain ⟨h5, h12, _⟩ := hF
                  have e5 : val 5 = .bool false := h5 _ (Frm.refl _ W)
                  have e12 : val 12 = .pointer (some ⟨A, r * 9, none⟩) := h12 _ (Frm.refl _ W)
                  try simp only [e12]
                  try simp only [e5]
                  try simp only [tupAt]
                  exact OpOK.load (by rfl) _ rfl (by rfl) ((HJ.out W (D.trans gW)).all.ctx hr) (fun W' _ => rfl)
                try simp only [Act.put, List.setIfInBounds_toArray, List.set_cons_zero, List.set_cons_succ]
                refine RelO.next (k' := 15) rfl (fun W gW hF => ?_) ?_
                focus
                  obtain ⟨h5, h9, h13, _⟩ := hF
                  have e5 : val 5 = .bool false := h5 _ (Frm.refl _ W)
                  have e9 : val 9 = .agg (vv (F q)) := h9 _ (Frm.refl _ W)
                  have e13 : val 13 = .agg (vv (F r)) := h13 _ (Frm.refl _ W)
                  try simp only [e13]
                  try simp only [e9]
                  try simp only [e5]
                  try simp only [tupAt]
                  have E := HEV.out
                  exact OpOK.val (u := .bool false) (by rfl) (by first | (go_simp; done) | (go_simp; with_reducible rfl) | (go_simp; rfl)) (fun W' _ => rfl)
                try simp only [Act.put, List.setIfInBounds_toArray, List.set_cons_zero, List.set_cons_succ]
                refine RelO.next (k' := 16) rfl (fun W gW hF => ?_) ?_
                focus
                  obtain ⟨h5, _⟩ := hF
                  have e5 : val 5 = .bool false := h5 _ (Frm.refl _ W)
                  try simp only [e5]
                  try simp only [tupAt]
                  refine OpOK.val (u := .int .i64 (q : Int)) (by rfl) ?_ (fun W' _ => rfl)
                  try simp only [e5]
                  try simp only [tupAt]
                  first | (go_simp; done) | (go_simp; with_reducible rfl) | (go_simp; rfl)
                try simp only [Act.put, List.setIfInBounds_toArray, List.set_cons_zero, List.set_cons_succ]
                refine RelO.next (k' := 17) rfl (fun W gW hF => ?_) ?_
                focus
                  obtain ⟨h5, h15, _⟩ := hF
                  have e5 : val 5 = .bool false := h5 _ (Frm.refl _ W)
                  have e15 : val 15 = .int .i64 (q : Int) := h15 _ (Frm.refl _ W)
                  try simp only [e15]
                  try simp only [e5]
                  try simp only [tupAt]
                  refine OpOK.val (u := .pointer (some ⟨A, q * 9, none⟩)) (by rfl) ?_ (fun W' _ => rfl)
                  try simp only [e15]
                  try simp only [e5]
                  try simp only [tupAt]
                  first | (go_simp; done) | (go_simp; with_reducible rfl) | (go_simp; rfl)
                try simp only [Act.put, List.setIfInBounds_toArray, List.set_cons_zero, List.set_cons_succ]
                refine RelO.next (k' := 18) rfl (fun W gW hF => ?_) ?_
                focus
                  obtain ⟨h5, h16, _⟩ := hF
                  have e5 : val 5 = .bool false := h5 _ (Frm.refl _ W)
                  have e16 : val 16 = .pointer (some ⟨A, q * 9, none⟩) := h16 _ (Frm.refl _ W)
                  try simp only [e16]
                  try simp only [e5]
                  try simp only [tupAt]
                  exact OpOK.load (by rfl) _ rfl (by rfl) ((HJ.out W (D.trans gW)).all.load hq4) (fun W' _ => rfl)
                try simp only [Act.put, List.setIfInBounds_toArray, List.set_cons_zero, List.set_cons_succ]
                refine RelO.next (k' := 19) rfl (fun W gW hF => ?_) ?_
                focus
                  obtain ⟨h5, _⟩ := hF
                  have e5 : val 5 = .bool false := h5 _ (Frm.refl _ W)
                  try simp only [e5]
                  try simp only [tupAt]
                  refine OpOK.val (u := .int .i64 (r : Int)) (by rfl) ?_ (fun W' _ => rfl)
                  try simp only [e5]
                  try simp only [tupAt]
                  first | (go_simp; done) | (go_simp; with_reducible rfl) | (go_simp; rfl)
                try simp only [Act.put, List.setIfInBounds_toArray, List.set_cons_zero, List.set_cons_succ]
                refine RelO.next (k' := 20) rfl (fun W gW hF => ?_) ?_
                focus
                  obtain ⟨h5, h18, _⟩ := hF
                  have e5 : val 5 = .bool false := h5 _ (Frm.refl _ W)
                  have e18 : val 18 = .int .i64 (r : Int) := h18 _ (Frm.refl _ W)
                  try simp only [e18]
                  try simp only [e5]
                  try simp only [tupAt]
                  refine OpOK.val (u := .pointer (some ⟨A, r * 9, none⟩)) (by rfl) ?_ (fun W' _ => rfl)
                  try simp only [e18]
                  try simp only [e5]
                  try simp only [tupAt]
                  first | (go_simp; done) | (go_simp; with_reducible rfl) | (go_simp; rfl)
                try simp only [Act.put, List.setIfInBounds_toArray, List.set_cons_zero, List.set_cons_succ]
                refine RelO.next (k' := 21) rfl (fun W gW hF => ?_) ?_
                focus
                  obtain ⟨h5, h19, _⟩ := hF
                  have e5 : val 5 = .bool false := h5 _ (Frm.refl _ W)
                  have e19 : val 19 = .pointer (some ⟨A, r * 9, none⟩) := h19 _ (Frm.refl _ W)
                  try simp only [e19]
                  try simp only [e5]
                  try simp only [tupAt]
                  exact OpOK.load (by rfl) _ rfl (by rfl) ((HJ.out W (D.trans gW)).all.load hr) (fun W' _ => rfl)
                try simp only [Act.put, List.setIfInBounds_toArray, List.set_cons_zero, List.set_cons_succ]
                refine RelO.next (k' := 22) rfl (fun W gW hF => ?_) ?_
                focus
                  obtain ⟨h5, h17, h20, _⟩ := hF
                  have e5 : val 5 = .bool false := h5 _ (Frm.refl _ W)
                  have e17 : val 17 = rg (F q) (V q) := h17 _ (Frm.refl _ W)
                  have e20 : val 20 = rg (F r) (V r) := h20 _ (Frm.refl _ W)
                  try simp only [e20]
                  try simp only [e17]
                  try simp only [e5]
                  try simp only [tupAt]
                  refine OpOK.call (by rfl) ?_ ((equal_any (F q) (F r) (V q) (V r) (L q) (L r) W ((HJ.out W (D.trans gW)).sl q hq4) ((HJ.out W (D.trans gW)).sl r hr)).mono ?_)
                  · first | (go_simp; done) | (go_simp; with_reducible rfl) | (go_simp; rfl)
                  · rintro e W1 ⟨he, g1⟩
                    rw [HEB.out] at he
                    subst he
                    exact ⟨_, rfl, g1, fun W2 _ => rfl⟩
                try simp only [Act.put, List.setIfInBounds_toArray, List.set_cons_zero, List.set_cons_succ]
                refine RelO.next (k' := 23) rfl (fun W gW hF => ?_) ?_
                focus
                  obtain ⟨h5, h14, h21, _⟩ := hF
                  have e5 : val 5 = .bool false := h5 _ (Frm.refl _ W)
                  have e14 : val 14 = .bool false := h14 _ (Frm.refl _ W)
                  have e21 : val 21 = .bool false := h21 _ (Frm.refl _ W)
                  try simp only [e21]
                  try simp only [e14]
                  try simp only [e5]
                  try simp only [tupAt]
                  refine OpOK.val (u := .bool false) (by rfl) ?_ (fun W' _ => rfl)
                  try simp only [e21]
                  try simp only [e14]
                  try simp only [e5]
                  try simp only [tupAt]
                  first | (go_simp; done) | (go_simp; with_reducible rfl) | (go_simp; rfl)
                try simp only [Act.put, List.setIfInBounds_toArray, List.set_cons_zero, List.set_cons_succ]
                refine RelO.next (k' := 24) rfl (fun W gW hF => ?_) ?_
                focus
                  obtain ⟨h5, h22, _⟩ := hF
                  have e5 : val 5 = .bool false := h5 _ (Frm.refl _ W)
                  have e22 : val 22 = .bool false := h22 _ (Frm.refl _ W)
                  try simp only [e22]
                  try simp only [e5]
                  try simp only [tupAt]
                  refine OpOK.val (u := .bool false) (by rfl) ?_ (fun W' _ => rfl)
                  try simp only [e22]
                  try simp only [e5]
                  try simp only [tupAt]
                  first | (go_simp; done) | (go_simp; with_reducible rfl) | (go_simp; rfl)
                try simp only [Act.put, List.setIfInBounds_toArray, List.set_cons_zero, List.set_cons_succ]
                exact RelO.nil
              intro val w7 gW hF
              obtain ⟨h0, h1, h2, h3, h4, h5, h6, h7, h8, h9, h10, h11, h12, h13, h14, h15, h16, h17, h18, h19, h20, h21, h22, h23, hT⟩ := hF
              have e0 : val 0 = .int .i64 (q : Int) := h0 _ (Frm.refl _ w7)
              have e1 : val 1 = .pointer (some ⟨A, q * 9, none⟩) := h1 _ (Frm.refl _ w7)
              have e2 : val 2 = rg (F q) (V q) := h2 _ (Frm.refl _ w7)
              have e3 : val 3 = .int .i64 0 := h3 _ (Frm.refl _ w7)
              have e4 : val 4 = .bool false := h4 _ (Frm.refl _ w7)
              have e5 : val 5 = .bool false := h5 _ (Frm.refl _ w7)
              have e6 : val 6 = .int .i64 (q : Int) := h6 _ (Frm.refl _ w7)
              have e7 : val 7 = .pointer (some ⟨A, q * 9, none⟩) := h7 _ (Frm.refl _ w7)
              have e8 : val 8 = .pointer (some ⟨A, q * 9, none⟩) := h8 _ (Frm.refl _ w7)
              have e9 : val 9 = .agg (vv (F q)) := h9 _ (Frm.refl _ w7)
              have e10 : val 10 = .int .i64 (r : Int) := h10 _ (Frm.refl _ w7)
              have e11 : val 11 = .pointer (some ⟨A, r * 9, none⟩) := h11 _ (Frm.refl _ w7)
              have e12 : val 12 = .pointer (some ⟨A, r * 9, none⟩) := h12 _ (Frm.refl _ w7)
              have e13 : val 13 = .agg (vv (F r)) := h13 _ (Frm.refl _ w7)
              have e14 : val 14 = .bool false := h14 _ (Frm.refl _ w7)
              have e15 : val 15 = .int .i64 (q : Int) := h15 _ (Frm.refl _ w7)
              have e16 : val 16 = .pointer (some ⟨A, q * 9, none⟩) := h16 _ (Frm.refl _ w7)
              have e17 : val 17 = rg (F q) (V q) := h17 _ (Frm.refl _ w7)
              have e18 : val 18 = .int .i64 (r : Int) := h18 _ (Frm.refl _ w7)
              have e19 : val 19 = .pointer (some ⟨A, r * 9, none⟩) := h19 _ (Frm.refl _ w7)
              have e20 : val 20 = rg (F r) (V r) := h20 _ (Frm.refl _ w7)
              have e21 : val 21 = .bool false := h21 _ (Frm.refl _ w7)
              have e22 : val 22 = .bool false := h22 _ (Frm.refl _ w7)
              have e23 : val 23 = .bool false := h23 _ (Frm.refl _ w7)
              clear hT h0 h1 h2 h3 h4 h5 h6 h7 h8 h9 h10 h11 h12 h13 h14 h15 h16 h17 h18 h19 h20 h21 h22 h23
              simp only [aO, Act.put, List.setIfInBounds_toArray, List.set_cons_zero, List.set_cons_succ, Nat.reduceAdd]
              try simp only [e23]
              try simp only [e22]
              try simp only [e21]
              try simp only [e20]
              try simp only [e19]
              try simp only [e18]
              try simp only [e17]
              try simp only [e16]
              try simp only [e15]
              try simp only [e14]
              try simp only [e13]
              try simp only [e12]
              try simp only [e11]
              try simp only [e10]
              try simp only [e9]
              try simp only [e8]
              try simp only [e7]
              try simp only [e6]
              try simp only [e5]
              try simp only [e4]
              try simp only [e3]
              try simp only [e2]
              try simp only [e1]
              try simp only [e0]
              try simp only [tupAt]
              refine wpTail.doneN ?_
              refine hK _ _ ?_
              have HG7 := Lib.hid (gq.trans (D.trans gW))
              clear gW D hK HEB HEV HCK HJ gq e0 e1 e2 e3 e4 e5 e6 e7 e8 e9 e10 e11 e12 e13 e14 e15 e16 e17 e18 e19 e20 e21 e22 e23
              go_wp2_with fail
              go_roundw
              case rel => exact ⟨q + 1, by omega, by go_num, HG7.out⟩
              case measure => simp [intOf]; omega
          · obtain rfl : q = 4 := by omega
            go_wp2_with fail
            go_roundw
            case rel => exact ⟨k + 1, E', F, V, L, by omega, by go_num, HJ5.out.keep gq⟩
            case measure => simp [intOf]; have := HLN.out; omega
    · obtain rfl : k = l.length := by omega
      go_wp2_with fail
      refine (HWK.out wr).mono ?_
      rintro e w2 ⟨rfl, g⟩
      go_wp2_with fail
      go_ret
      exact ⟨rfl, HJ0.out.frm.trans g⟩
end Go.Proofs.Ytmdmkcofafhlcaa

