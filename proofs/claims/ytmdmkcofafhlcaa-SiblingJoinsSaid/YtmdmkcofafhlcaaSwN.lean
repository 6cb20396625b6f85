/- What is gone through is what a register has. No condition. -/
import Derived.Test.YtmdmkcofafhlcaaSwM
namespace Go.Proofs.Ytmdmkcofafhlcaa
open Go.RowKit Go.Shelf
attribute [local go_sem] Oper.semAt_some

theorem all_eql (w : World) (f : Fn) (a c : Array Value) : (binOp .eql 109 (.func f a c) .nilFunc).run Try.prog w = .ok (.bool false) w := by
  have h : ∀ d : Nat, (Op.equalIn (d + 1) 109 (.func f a c) .nilFunc).run Try.prog w = .ok false w := fun d => by
    simp [Op.equalIn, run_underlying Try.underlying109]
  simp only [binOp]
  simp [Op.equal, Op.maxDepth, h 9999]
/-- What lies between two rounds. -/
structure GnI (w : World) (n1 C : Nat) (f : Nat → Nat) (v : Value) (l : List SibI) (pre : List SibI) (W : World) : Prop where
  reg : Blk W w.heap.size 39 (rgc f v)
  sl : SL W v l
  cnt : Blk W C 3 #[.int .i64 (pre.length : Int)]
  res : Blk W (w.heap.size + 1) 4 #[.bool false]
  frm : Frm (fun _ => False) w W
  size : n1 ≤ W.heap.size
theorem GnI.own (w : World) (n1 C : Nat) (f : Nat → Nat) (v : Value) (l : List SibI) (h0 : SL w v l) (B : Nat) (hB : w.heap.size ≤ B) : OwnFrom B (GnI w n1 C f v l) := fun _ _ _ _ h hg hr => by
  have hr2 := fun r e => (hr r e).2
  have hf := h.frm.turned hB hg hr
  exact ⟨h.reg.turned hg hr2, h0.keepF hf, h.cnt.turned hg hr2, h.res.turned hg hr2, hf, Nat.le_trans h.size hg.size⟩
def gn8aM : List Nat := [1, 2, 6, 14, 31, 63, 127, 255, 319, 1023, 2047, 4095, 4159, 16383, 32767, 65535, 131071, 262143, 327679, 1048575, 2097151, 4194303, 4259839, 16777215, 33554431]
def gn8aR (N g off k n cap : Nat) (x y : SibI) : List ((Nat → Value) → World → Prop) := [
  fun val _ => val 0 = .int .i64 (k : Int),
  fun val _ => val 1 = .pointer (some ⟨N, 8, none⟩),
  fun val _ => val 2 = .slice (some ⟨g, off, none⟩) n cap,
  fun val _ => val 3 = .int .i64 (n : Int),
  fun val _ => val 4 = .bool false,
  fun val _ => val 5 = .bool false,
  fun val _ => val 6 = .pointer (some ⟨N, 8, none⟩),
  fun val _ => val 7 = .slice (some ⟨g, off, none⟩) n cap,
  fun val _ => val 8 = .int .i64 (k : Int),
  fun val _ => val 9 = .pointer (some ⟨g, off + k * 3, none⟩),
  fun val _ => val 10 = .pointer (some ⟨g, off + k * 3, none⟩),
  fun val _ => val 11 = .agg (dv y.r y.n),
  fun val _ => val 12 = .agg (dv x.r x.n),
  fun val _ => val 13 = .bool false,
  fun val _ => val 14 = .bool false,
  fun val _ => val 15 = .bool false,
  fun val _ => val 16 = .pointer (some ⟨N, 8, none⟩),
  fun val _ => val 17 = .slice (some ⟨g, off, none⟩) n cap,
  fun val _ => val 18 = .int .i64 (k : Int),
  fun val _ => val 19 = .pointer (some ⟨g, off + k * 3, none⟩),
  fun val _ => val 20 = .pointer (some ⟨g, off + k * 3 + 2, none⟩),
  fun val _ => val 21 = .string (bs y.s),
  fun val _ => val 22 = .string (bs x.s),
  fun val _ => val 23 = .bool false,
  fun val _ => val 24 = .bool false]
def gn8bM : List Nat := [1, 2, 6, 14, 31, 63, 127, 255, 319, 1023, 2047, 4095, 4159, 16383, 32767, 65535, 131071, 262143, 327679, 1048575, 2097151, 4194303, 4259839, 16777215, 33554431]
def gn8bR (N g off k n cap : Nat) (x y : SibI) : List ((Nat → Value) → World → Prop) := [
  fun val _ => val 0 = .int .i64 (k : Int),
  fun val _ => val 1 = .pointer (some ⟨N, 8, none⟩),
  fun val _ => val 2 = .slice (some ⟨g, off, none⟩) n cap,
  fun val _ => val 3 = .int .i64 (n : Int),
  fun val _ => val 4 = .bool false,
  fun val _ => val 5 = .bool false,
  fun val _ => val 6 = .pointer (some ⟨N, 8, none⟩),
  fun val _ => val 7 = .slice (some ⟨g, off, none⟩) n cap,
  fun val _ => val 8 = .int .i64 (k : Int),
  fun val _ => val 9 = .pointer (some ⟨g, off + k * 3, none⟩),
  fun val _ => val 10 = .pointer (some ⟨g, off + k * 3, none⟩),
  fun val _ => val 11 = .agg (dv y.r y.n),
  fun val _ => val 12 = .agg (dv x.r x.n),
  fun val _ => val 13 = .bool true,
  fun val _ => val 14 = .bool true,
  fun val _ => val 15 = .bool true,
  fun val _ => val 16 = undef,
  fun val _ => val 17 = undef,
  fun val _ => val 18 = undef,
  fun val _ => val 19 = undef,
  fun val _ => val 20 = undef,
  fun val _ => val 21 = undef,
  fun val _ => val 22 = undef,
  fun val _ => val 23 = undef,
  fun val _ => val 24 = .bool true]
def gn8cM : List Nat := [1, 2, 6, 14, 31, 63, 127, 255, 319, 1023, 2047, 4095, 4159, 16383, 32767, 65535, 131071, 262143, 327679, 1048575, 2097151, 4194303, 4259839, 16777215, 33554431]
def gn8cR (N g off k n cap : Nat) (x y : SibI) : List ((Nat → Value) → World → Prop) := [
  fun val _ => val 0 = .int .i64 (k : Int),
  fun val _ => val 1 = .pointer (some ⟨N, 8, none⟩),
  fun val _ => val 2 = .slice (some ⟨g, off, none⟩) n cap,
  fun val _ => val 3 = .int .i64 (n : Int),
  fun val _ => val 4 = .bool false,
  fun val _ => val 5 = .bool false,
  fun val _ => val 6 = .pointer (some ⟨N, 8, none⟩),
  fun val _ => val 7 = .slice (some ⟨g, off, none⟩) n cap,
  fun val _ => val 8 = .int .i64 (k : Int),
  fun val _ => val 9 = .pointer (some ⟨g, off + k * 3, none⟩),
  fun val _ => val 10 = .pointer (some ⟨g, off + k * 3, none⟩),
  fun val _ => val 11 = .agg (dv y.r y.n),
  fun val _ => val 12 = .agg (dv x.r x.n),
  fun val _ => val 13 = .bool false,
  fun val _ => val 14 = .bool false,
  fun val _ => val 15 = .bool false,
  fun val _ => val 16 = .pointer (some ⟨N, 8, none⟩),
  fun val _ => val 17 = .slice (some ⟨g, off, none⟩) n cap,
  fun val _ => val 18 = .int .i64 (k : Int),
  fun val _ => val 19 = .pointer (some ⟨g, off + k * 3, none⟩),
  fun val _ => val 20 = .pointer (some ⟨g, off + k * 3 + 2, none⟩),
  fun val _ => val 21 = .string (bs y.s),
  fun val _ => val 22 = .string (bs x.s),
  fun val _ => val 23 = .bool true,
  fun val _ => val 24 = .bool true]

set_option maxRecDepth 100000 in
set_option maxHeartbeats 8000000 in
theorem gone_any (f : Nat → Nat) (v : Value) (l : List SibI) (w : World) (h : SL w v l) (hb : l.length ≤ 1000) :
    Calls Try.prog 36 #[rg f v] w fun e w' => e = .returned (.bool true) ∧ Frm (fun _ => False) w w' := by
  have hq := all_eql
  obtain ⟨a, cap, hv, hc1, hc2⟩ := h.slice
  have HV := Lib.hid hv
  unfold maxLen at hc2
  refine (callsIn_wide (n := 9)).1 ?_
  refine callsIn_of_wp_marks Try.func36 rfl trivial ?_ rfl
  simp only [Try.ntmps36, List.size_toArray, List.length_cons, List.length_nil, Nat.reduceAdd, Nat.reduceSub, Array.replicate_succ, Array.replicate_zero, List.push_toArray, List.append_toArray, List.nil_append, List.cons_append]
  have g0 : Frm (fun _ => False) w ((w.alloc (.cells (rgc f v) 39)).alloc (.cells #[.bool false] 4)) := ((Frm.refl _ w).alloc _).alloc _
  have d0 : Blk ((w.alloc (.cells (rgc f v) 39)).alloc (.cells #[.bool false] 4)) w.heap.size 39 (rgc f v) := (Blk.alloc w _ _).old _
  have d1 : Blk ((w.alloc (.cells (rgc f v) 39)).alloc (.cells #[.bool false] 4)) (w.heap.size + 1) 4 #[.bool false] := Blk.at1 w _ _ _
  have hz : ((w.alloc (.cells (rgc f v) 39)).alloc (.cells #[.bool false] 4)).heap.size = w.heap.size + 2 := by simp
  have hs0 := h.keepF g0
  refine wpIn_wide.2 ?_
  refine Code.wp_mono calmR_le ?_
  clear hv
  go_wp2_with fail
  refine (sall_any f v l _ hs0 (by omega)).mono ?_
  rintro e w1 ⟨B, u, rfl, hB0, hB1, hu, hub, g1⟩
  go_wp2_with fail
  refine (wpIn_wide (n := 9)).1 ?_
  rw [hz] at hB0 hub
  have k1 := g0.trans g1
  have d0 := d0.keep g1 (fun h => h)
  have d1 := d1.keep g1 (fun h => h)
  clear g0 g1 hz hs0 hq
  have hsz := k1.size
  have hlt1 := d1.lt
  have g2 : Frm (fun _ => False) w1 (w1.alloc (.cells #[.int .i64 0] 3)) := (Frm.refl _ w1).alloc _
  have d2 := Blk.alloc w1 3 #[.int .i64 0]
  have hB2 := hB1.keep g2 (fun h => h)
  have hu2 := hu.keepF g2
  have k2 := k1.trans g2
  have hz2 : (w1.alloc (.cells #[.int .i64 0] 3)).heap.size = w1.heap.size + 1 := by simp
  have hKlt : ∀ q, blkOf u = some q → q < (w1.alloc (.cells #[.int .i64 0] 3)).heap.size := fun q e => by have := (hub q e).2.2; omega
  have hK3 : ∀ q, blkOf u = some q → w.heap.size + 2 ≤ q ∧ q < w1.heap.size := fun q e => ⟨(hub q e).1, (hub q e).2.2⟩
  refine wpIn_rangeFunc_ownH rfl (by omega) (gf := 84) (lb := #[.pointer (some ⟨B, 0, none⟩)]) rfl trivial (enters_of Try.func84 (by kernel_rfl) rfl)
    (sall_stops B u l (fun q => blkOf u = some q) _ hB2 hu2 hKlt (fun g hg => hg)) keptS.trans (keptS.put hKlt) (Below.refl _ _) (fun _ => rfl)
    (GnI w (w1.heap.size + 1) w1.heap.size f v l) (fun c pre W => ¬ pre <+: l) (GnI.own w _ _ f v l h _ (by omega)) (fun _ _ _ _ _ h _ _ => h) ⟨d0.keep g2 (fun h => h), h.keepF k2, d2, d1.keep g2 (fun h => h), k2, by omega⟩
    (fun x a' W => ∃ Bx, w1.heap.size + 1 ≤ Bx ∧ Blk W Bx 27 (dv x.r x.n) ∧ a' = { tmps := #[rg f v, .pointer (some ⟨w.heap.size, 0, none⟩), .pointer (some ⟨w.heap.size + 1, 0, none⟩), .func (.func 84) #[] #[.pointer (some ⟨B, 0, none⟩)], .pointer (some ⟨w1.heap.size, 0, none⟩), .pointer (some ⟨Bx, 0, none⟩), .string (bs x.s), rg f v, .func (.func 84) #[] #[.pointer (some ⟨B, 0, none⟩)], .func (.func 84) #[] #[.pointer (some ⟨B, 0, none⟩)], .bool false, .func (.func 84) #[] #[.pointer (some ⟨B, 0, none⟩)], .agg (dv x.r x.n), .string (bs x.s), undef, undef, undef, undef, undef, undef, undef, undef, undef, undef, undef, undef, undef, undef, undef, undef, undef, undef, undef, undef, undef, undef, undef, undef, undef, undef, undef, undef, undef, undef, undef, undef], defers := [] })
    (fun x a' _ X Y row hs hg hr => by obtain ⟨Bx, h1, h2, h3⟩ := hs; exact ⟨Bx, h1, h2.turned hg (fun r e => (hr r e).2), h3⟩) ?assign ?body ?done ?stop
  case assign =>
    rintro l0 pre x W K hi hK
    gi_wp2
    have hs := hi.size
    exact hK _ _ ((KeepsOthers.alloc _ _).from _) (fun q hq => Below.heap_alloc _ _ _ (by have := hK3 q hq; omega)) ((GnI.own w _ _ f v l h _ hsz).alloc _ hi) ⟨W.heap.size, hs, Blk.alloc W _ _, rfl⟩
  case body =>
    rintro l0 pre x a' wr hl hrec hi ⟨Bx, hBx, bX, rfl⟩ hlt
    obtain ⟨y, hy⟩ : ∃ y, l[pre.length] = y := ⟨_, rfl⟩
    have hsl := hi.sl
    rw [HV.out] at hsl
    obtain ⟨g, off, ha, _, _, _⟩ := hsl.cells pre.length hlt
    have hv2 := HV.out
    rw [ha] at hv2
    have HX : Hid (∀ W, Frm (fun _ => False) wr W → W.cell? ⟨g, off + pre.length * 3, none⟩ = some (.int .u8 y.r) ∧ W.cell? ⟨g, off + pre.length * 3 + 1, none⟩ = some (.int .u32 y.n) ∧ W.cell? ⟨g, off + pre.length * 3 + 2, none⟩ = some (.string (bs y.s))) := Lib.hid fun W gW => by
      have hsl2 := hi.sl.keepF gW
      rw [hv2] at hsl2
      obtain ⟨g2, off2, e, x0, x1, x2⟩ := hsl2.cells pre.length hlt
      cases e
      rw [← hy]
      exact ⟨x0, x1, x2⟩
    have HB : Hid (∀ W, Frm (fun _ => False) wr W → Blk W w.heap.size 39 (rgc f (.slice (some ⟨g, off, none⟩) l.length cap))) := Lib.hid fun W gW => by rw [← hv2]; exact hi.reg.keep gW (fun h => h)
    have HC : Hid (∀ W, Frm (fun _ => False) wr W → Blk W w1.heap.size 3 #[.int .i64 (pre.length : Int)]) := Lib.hid fun W gW => hi.cnt.keep gW (fun h => h)
    have HD : Hid (∀ W, Frm (fun _ => False) wr W → Blk W Bx 27 (dv x.r x.n)) := Lib.hid fun W gW => bX.keep gW (fun h => h)
    have HI := Lib.hid hi
    have HY := Lib.hid hy
    obtain ⟨k, hk⟩ : ∃ k, pre.length = k := ⟨_, rfl⟩
    obtain ⟨n, hn⟩ : ∃ n, l.length = n := ⟨_, rfl⟩
    obtain ⟨N, hN⟩ : ∃ N, w.heap.size = N := ⟨_, rfl⟩
    obtain ⟨C, hC⟩ : ∃ C, w1.heap.size = C := ⟨_, rfl⟩
    rw [hk] at HX HC
    rw [hN, hn] at HB
    rw [hC] at HC
    have hki : (k : Int) < (n : Int) := by omega
    have hki2 : ¬ (n : Int) ≤ (k : Int) := by omega
    have hk0 : (0 : Int) ≤ (k : Int) := by omega
    have hn2 : n ≤ cap := by omega
    have hn3 : (n : Int) ≤ 1000 := by omega
    have HKK := Lib.hid hk
    have HCC := Lib.hid hC
    have HNN := Lib.hid hN
    rw [hN, hC]
    have D : Frm (fun _ => False) wr wr.drew := (Frm.refl _ _).drew
    clear hi bX hrec ha hv2 hsl hy hk hn hN hC
    by_cases hxy : y = x
    · have hyx := hxy.symm
      subst hyx
      have HE1 : Hid (∀ W, (Op.equalIn 10000 27 (.agg (dv x.r x.n)) (.agg (dv x.r x.n))).run Try.prog W = .ok true W) := Lib.hid fun W => by rw [run_eq_dot]; simp
      have HE2 := Lib.hid (trivial : True)
      refine wpIn_block ?_
      refine wpIn_seq ?_
      refine wpIn_seq ?_
      refine wpIn_region_late 25 0 [] [[], [], [1], [2], [0, 3], [4], [5], [5, 6], [5], [5, 7, 8], [5, 9], [5, 10], [5], [5, 11, 12], [5, 13], [14], [15], [15, 16], [15], [15, 17, 18], [15, 19], [15, 20], [15], [15, 21, 22], [15, 23]] gn8aM (gn8aR N g off k n cap x x) (by rintro ⟨_, _, h⟩; exact h) (by kernel_rfl) (by kernel_rfl) rfl rfl rfl (by kernel_rfl) (by kernel_rfl) (by kernel_rfl) (by kernel_rfl) rfl (by kernel_rfl) (by kernel_rfl) (by kernel_rfl) (by kernel_rfl) (fun val => ?_) ?_
      · try dsimp only
        refine RelO.next (k' := 1) rfl (fun W gW hF => ?_) ?_
        focus
          have c0 := (HC.out W (D.trans gW)).cell 0 rfl
          exact OpOK.val (u := .int .i64 (k : Int)) (by rfl) (by first | (go_simp; done) | (go_simp; with_reducible rfl) | (go_simp; rfl)) (fun W' _ => rfl)
        try simp only [Act.put, List.setIfInBounds_toArray, List.set_cons_zero, List.set_cons_succ]
        refine RelO.next (k' := 2) rfl (fun W gW hF => ?_) ?_
        focus
          refine OpOK.val (u := .pointer (some ⟨N, 8, none⟩)) (by rfl) ?_ (fun W' _ => rfl)
          try simp only [tupAt]
          first | (go_simp; done) | (go_simp; with_reducible rfl) | (go_simp; rfl)
        try simp only [Act.put, List.setIfInBounds_toArray, List.set_cons_zero, List.set_cons_succ]
        refine RelO.next (k' := 3) rfl (fun W gW hF => ?_) ?_
        focus
          obtain ⟨h1, _⟩ := hF
          have e1 : val 1 = .pointer (some ⟨N, 8, none⟩) := h1 _ (Frm.refl _ W)
          try simp only [e1]
          try simp only [tupAt]
          have c8 := (HB.out W (D.trans gW)).cell 8 rfl
          have a3 := Try.isAgg37
          have z3 := Try.sizeOf37
          exact OpOK.val (u := .slice (some ⟨g, off, none⟩) n cap) (by rfl) (by first | (go_simp; done) | (go_simp; with_reducible rfl) | (go_simp; rfl)) (fun W' _ => rfl)
        try simp only [Act.put, List.setIfInBounds_toArray, List.set_cons_zero, List.set_cons_succ]
        refine RelO.next (k' := 4) rfl (fun W gW hF => ?_) ?_
        focus
          obtain ⟨h2, _⟩ := hF
          have e2 : val 2 = .slice (some ⟨g, off, none⟩) n cap := h2 _ (Frm.refl _ W)
          try simp only [e2]
          try simp only [tupAt]
          refine OpOK.val (u := .int .i64 (n : Int)) (by rfl) ?_ (fun W' _ => rfl)
          try simp only [e2]
          try simp only [tupAt]
          first | (go_simp; done) | (go_simp; with_reducible rfl) | (go_simp; rfl)
        try simp only [Act.put, List.setIfInBounds_toArray, List.set_cons_zero, List.set_cons_succ]
        refine RelO.next (k' := 5) rfl (fun W gW hF => ?_) ?_
        focus
          obtain ⟨h0, h3, _⟩ := hF
          have e0 : val 0 = .int .i64 (k : Int) := h0 _ (Frm.refl _ W)
          have e3 : val 3 = .int .i64 (n : Int) := h3 _ (Frm.refl _ W)
          try simp only [e3]
          try simp only [e0]
          try simp only [tupAt]
          refine OpOK.val (u := .bool false) (by rfl) ?_ (fun W' _ => rfl)
          try simp only [e3]
          try simp only [e0]
          try simp only [tupAt]
          first | (go_simp; done) | (go_simp; with_reducible rfl) | (go_simp; rfl)
        try simp only [Act.put, List.setIfInBounds_toArray, List.set_cons_zero, List.set_cons_succ]
        refine RelO.next (k' := 6) rfl (fun W gW hF => ?_) ?_
        focus
          obtain ⟨h4, _⟩ := hF
          have e4 : val 4 = .bool false := h4 _ (Frm.refl _ W)
          try simp only [e4]
          try simp only [tupAt]
          refine OpOK.val (u := .bool false) (by rfl) ?_ (fun W' _ => rfl)
          try simp only [e4]
          try simp only [tupAt]
          first | (go_simp; done) | (go_simp; with_reducible rfl) | (go_simp; rfl)
        try simp only [Act.put, List.setIfInBounds_toArray, List.set_cons_zero, List.set_cons_succ]
        refine RelO.next (k' := 7) rfl (fun W gW hF => ?_) ?_
        focus
          obtain ⟨h5, _⟩ := hF
          have e5 : val 5 = .bool false := h5 _ (Frm.refl _ W)
          try simp only [e5]
          try simp only [tupAt]
          refine OpOK.val (u := .pointer (some ⟨N, 8, none⟩)) (by rfl) ?_ (fun W' _ => rfl)
          try simp only [e5]
          try simp only [tupAt]
          first | (go_simp; done) | (go_simp; with_reducible rfl) | (go_simp; rfl)
        try simp only [Act.put, List.setIfInBounds_toArray, List.set_cons_zero, List.set_cons_succ]
        refine RelO.next (k' := 8) rfl (fun W gW hF => ?_) ?_
        focus
          obtain ⟨h5, h6, _⟩ := hF
          have e5 : val 5 = .bool false := h5 _ (Frm.refl _ W)
          have e6 : val 6 = .pointer (some ⟨N, 8, none⟩) := h6 _ (Frm.refl _ W)
          try simp only [e6]
          try simp only [e5]
          try simp only [tupAt]
          have c8 := (HB.out W (D.trans gW)).cell 8 rfl
          have a3 := Try.isAgg37
          have z3 := Try.sizeOf37
          exact OpOK.val (u := .slice (some ⟨g, off, none⟩) n cap) (by rfl) (by first | (go_simp; done) | (go_simp; with_reducible rfl) | (go_simp; rfl)) (fun W' _ => rfl)
        try simp only [Act.put, List.setIfInBounds_toArray, List.set_cons_zero, List.set_cons_succ]
        refine RelO.next (k' := 9) rfl (fun W gW hF => ?_) ?_
        focus
          obtain ⟨h5, _⟩ := hF
          have e5 : val 5 = .bool false := h5 _ (Frm.refl _ W)
          try simp only [e5]
          try simp only [tupAt]
          have c0 := (HC.out W (D.trans gW)).cell 0 rfl
          exact OpOK.val (u := .int .i64 (k : Int)) (by rfl) (by first | (go_simp; done) | (go_simp; with_reducible rfl) | (go_simp; rfl)) (fun W' _ => rfl)
        try simp only [Act.put, List.setIfInBounds_toArray, List.set_cons_zero, List.set_cons_succ]
        refine RelO.next (k' := 10) rfl (fun W gW hF => ?_) ?_
        focus
          obtain ⟨h5, h7, h8, _⟩ := hF
          have e5 : val 5 = .bool false := h5 _ (Frm.refl _ W)
          have e7 : val 7 = .slice (some ⟨g, off, none⟩) n cap := h7 _ (Frm.refl _ W)
          have e8 : val 8 = .int .i64 (k : Int) := h8 _ (Frm.refl _ W)
          try simp only [e8]
          try simp only [e7]
          try simp only [e5]
          try simp only [tupAt]
          refine OpOK.val (u := .pointer (some ⟨g, off + k * 3, none⟩)) (by rfl) ?_ (fun W' _ => rfl)
          try simp only [e8]
          try simp only [e7]
          try simp only [e5]
          try simp only [tupAt]
          first | (go_simp; done) | (go_simp; with_reducible rfl) | (go_simp; rfl)
        try simp only [Act.put, List.setIfInBounds_toArray, List.set_cons_zero, List.set_cons_succ]
        refine RelO.next (k' := 11) rfl (fun W gW hF => ?_) ?_
        focus
          obtain ⟨h5, h9, _⟩ := hF
          have e5 : val 5 = .bool false := h5 _ (Frm.refl _ W)
          have e9 : val 9 = .pointer (some ⟨g, off + k * 3, none⟩) := h9 _ (Frm.refl _ W)
          try simp only [e9]
          try simp only [e5]
          try simp only [tupAt]
          refine OpOK.val (u := .pointer (some ⟨g, off + k * 3, none⟩)) (by rfl) ?_ (fun W' _ => rfl)
          try simp only [e9]
          try simp only [e5]
          try simp only [tupAt]
          first | (go_simp; done) | (go_simp; with_reducible rfl) | (go_simp; rfl)
        try simp only [Act.put, List.setIfInBounds_toArray, List.set_cons_zero, List.set_cons_succ]
        refine RelO.next (k' := 12) rfl (fun W gW hF => ?_) ?_
        focus
          obtain ⟨h5, h10, _⟩ := hF
          have e5 : val 5 = .bool false := h5 _ (Frm.refl _ W)
          have e10 : val 10 = .pointer (some ⟨g, off + k * 3, none⟩) := h10 _ (Frm.refl _ W)
          try simp only [e10]
          try simp only [e5]
          try simp only [tupAt]
          obtain ⟨x0, x1, x2⟩ := HX.out W (D.trans gW)
          exact OpOK.val (u := .agg (dv x.r x.n)) (by rfl) (by first | (go_simp; done) | (go_simp; with_reducible rfl) | (go_simp; rfl)) (fun W' _ => rfl)
        try simp only [Act.put, List.setIfInBounds_toArray, List.set_cons_zero, List.set_cons_succ]
        refine RelO.next (k' := 13) rfl (fun W gW hF => ?_) ?_
        focus
          obtain ⟨h5, _⟩ := hF
          have e5 : val 5 = .bool false := h5 _ (Frm.refl _ W)
          try simp only [e5]
          try simp only [tupAt]
          exact OpOK.load (by rfl) _ rfl (by rfl) (load_dotB (HD.out W (D.trans gW))) (fun W' _ => rfl)
        try simp only [Act.put, List.setIfInBounds_toArray, List.set_cons_zero, List.set_cons_succ]
        refine RelO.next (k' := 14) rfl (fun W gW hF => ?_) ?_
        focus
          obtain ⟨h5, h11, h12, _⟩ := hF
          have e5 : val 5 = .bool false := h5 _ (Frm.refl _ W)
          have e11 : val 11 = .agg (dv x.r x.n) := h11 _ (Frm.refl _ W)
          have e12 : val 12 = .agg (dv x.r x.n) := h12 _ (Frm.refl _ W)
          try simp only [e12]
          try simp only [e11]
          try simp only [e5]
          try simp only [tupAt]
          have E := HE1.out
          exact OpOK.val (u := .bool false) (by rfl) (by first | (go_simp; done) | (go_simp; with_reducible rfl) | (go_simp; rfl)) (fun W' _ => rfl)
        try simp only [Act.put, List.setIfInBounds_toArray, List.set_cons_zero, List.set_cons_succ]
        refine RelO.next (k' := 15) rfl (fun W gW hF => ?_) ?_
        focus
          obtain ⟨h5, h13, _⟩ := hF
          have e5 : val 5 = .bool false := h5 _ (Frm.refl _ W)
          have e13 : val 13 = .bool false := h13 _ (Frm.refl _ W)
          try simp only [e13]
          try simp only [e5]
          try simp only [tupAt]
          refine OpOK.val (u := .bool false) (by rfl) ?_ (fun W' _ => rfl)
          try simp only [e13]
          try simp only [e5]
          try simp only [tupAt]
          first | (go_simp; done) | (go_simp; with_reducible rfl) | (go_simp; rfl)
        try simp only [Act.put, List.setIfInBounds_toArray, List.set_cons_zero, List.set_cons_succ]
        refine RelO.next (k' := 16) rfl (fun W gW hF => ?_) ?_
        focus
          obtain ⟨h14, _⟩ := hF
          have e14 : val 14 = .bool false := h14 _ (Frm.refl _ W)
          try simp only [e14]
          try simp only [tupAt]
          refine OpOK.val (u := .bool false) (by rfl) ?_ (fun W' _ => rfl)
          try simp only [e14]
          try simp only [tupAt]
          first | (go_simp; done) | (go_simp; with_reducible rfl) | (go_simp; rfl)
        try simp only [Act.put, List.setIfInBounds_toArray, List.set_cons_zero, List.set_cons_succ]
        refine RelO.next (k' := 17) rfl (fun W gW hF => ?_) ?_
        focus
          obtain ⟨h15, _⟩ := hF
          have e15 : val 15 = .bool false := h15 _ (Frm.refl _ W)
          try simp only [e15]
          try simp only [tupAt]
          refine OpOK.val (u := .pointer (some ⟨N, 8, none⟩)) (by rfl) ?_ (fun W' _ => rfl)
          try simp only [e15]
          try simp only [tupAt]
          first | (go_simp; done) | (go_simp; with_reducible rfl) | (go_simp; rfl)
        try simp only [Act.put, List.setIfInBounds_toArray, List.set_cons_zero, List.set_cons_succ]
        refine RelO.next (k' := 18) rfl (fun W gW hF => ?_) ?_
        focus
          obtain ⟨h15, h16, _⟩ := hF
          have e15 : val 15 = .bool false := h15 _ (Frm.refl _ W)
          have e16 : val 16 = .pointer (some ⟨N, 8, none⟩) := h16 _ (Frm.refl _ W)
          try simp only [e16]
          try simp only [e15]
          try simp only [tupAt]
          have c8 := (HB.out W (D.trans gW)).cell 8 rfl
          have a3 := Try.isAgg37
          have z3 := Try.sizeOf37
          exact OpOK.val (u := .slice (some ⟨g, off, none⟩) n cap) (by rfl) (by first | (go_simp; done) | (go_simp; with_reducible rfl) | (go_simp; rfl)) (fun W' _ => rfl)
        try simp only [Act.put, List.setIfInBounds_toArray, List.set_cons_zero, List.set_cons_succ]
        refine RelO.next (k' := 19) rfl (fun W gW hF => ?_) ?_
        focus
          obtain ⟨h15, _⟩ := hF
          have e15 : val 15 = .bool false := h15 _ (Frm.refl _ W)
          try simp only [e15]
          try simp only [tupAt]
          have c0 := (HC.out W (D.trans gW)).cell 0 rfl
          exact OpOK.val (u := .int .i64 (k : Int)) (by rfl) (by first | (go_simp; done) | (go_simp; with_reducible rfl) | (go_simp; rfl)) (fun W' _ => rfl)
        try simp only [Act.put, List.setIfInBounds_toArray, List.set_cons_zero, List.set_cons_succ]
        refine RelO.next (k' := 20) rfl (fun W gW hF => ?_) ?_
        focus
          obtain ⟨h15, h17, h18, _⟩ := hF
          have e15 : val 15 = .bool false := h15 _ (Frm.refl _ W)
          have e17 : val 17 = .slice (some ⟨g, off, none⟩) n cap := h17 _ (Frm.refl _ W)
          have e18 : val 18 = .int .i64 (k : Int) := h18 _ (Frm.refl _ W)
          try simp only [e18]
          try simp only [e17]
          try simp only [e15]
          try simp only [tupAt]
          refine OpOK.val (u := .pointer (some ⟨g, off + k * 3, none⟩)) (by rfl) ?_ (fun W' _ => rfl)
          try simp only [e18]
          try simp only [e17]
          try simp only [e15]
          try simp only [tupAt]
          first | (go_simp; done) | (go_simp; with_reducible rfl) | (go_simp; rfl)
        try simp only [Act.put, List.setIfInBounds_toArray, List.set_cons_zero, List.set_cons_succ]
        refine RelO.next (k' := 21) rfl (fun W gW hF => ?_) ?_
        focus
          obtain ⟨h15, h19, _⟩ := hF
          have e15 : val 15 = .bool false := h15 _ (Frm.refl _ W)
          have e19 : val 19 = .pointer (some ⟨g, off + k * 3, none⟩) := h19 _ (Frm.refl _ W)
          try simp only [e19]
          try simp only [e15]
          try simp only [tupAt]
          refine OpOK.val (u := .pointer (some ⟨g, off + k * 3 + 2, none⟩)) (by rfl) ?_ (fun W' _ => rfl)
          try simp only [e19]
          try simp only [e15]
          try simp only [tupAt]
          first | (go_simp; done) | (go_simp; with_reducible rfl) | (go_simp; rfl)
        try simp only [Act.put, List.setIfInBounds_toArray, List.set_cons_zero, List.set_cons_succ]
        refine RelO.next (k' := 22) rfl (fun W gW hF => ?_) ?_
        focus
          obtain ⟨h15, h20, _⟩ := hF
          have e15 : val 15 = .bool false := h15 _ (Frm.refl _ W)
          have e20 : val 20 = .pointer (some ⟨g, off + k * 3 + 2, none⟩) := h20 _ (Frm.refl _ W)
          try simp only [e20]
          try simp only [e15]
          try simp only [tupAt]
          obtain ⟨x0, x1, x2⟩ := HX.out W (D.trans gW)
          exact OpOK.val (u := .string (bs x.s)) (by rfl) (by first | (go_simp; done) | (go_simp; with_reducible rfl) | (go_simp; rfl)) (fun W' _ => rfl)
        try simp only [Act.put, List.setIfInBounds_toArray, List.set_cons_zero, List.set_cons_succ]
        refine RelO.next (k' := 23) rfl (fun W gW hF => ?_) ?_
        focus
          obtain ⟨h15, _⟩ := hF
          have e15 : val 15 = .bool false := h15 _ (Frm.refl _ W)
          try simp only [e15]
          try simp only [tupAt]
          refine OpOK.val (u := .string (bs x.s)) (by rfl) ?_ (fun W' _ => rfl)
          try simp only [e15]
          try simp only [tupAt]
          first | (go_simp; done) | (go_simp; with_reducible rfl) | (go_simp; rfl)
        try simp only [Act.put, List.setIfInBounds_toArray, List.set_cons_zero, List.set_cons_succ]
        refine RelO.next (k' := 24) rfl (fun W gW hF => ?_) ?_
        focus
          obtain ⟨h15, h21, h22, _⟩ := hF
          have e15 : val 15 = .bool false := h15 _ (Frm.refl _ W)
          have e21 : val 21 = .string (bs x.s) := h21 _ (Frm.refl _ W)
          have e22 : val 22 = .string (bs x.s) := h22 _ (Frm.refl _ W)
          try simp only [e22]
          try simp only [e21]
          try simp only [e15]
          try simp only [tupAt]
          have E := HE2.out
          exact OpOK.val (u := .bool false) (by rfl) (by first | (go_simp; done) | (go_simp; with_reducible rfl) | (go_simp; rfl)) (fun W' _ => rfl)
        try simp only [Act.put, List.setIfInBounds_toArray, List.set_cons_zero, List.set_cons_succ]
        refine RelO.next (k' := 25) rfl (fun W gW hF => ?_) ?_
        focus
          obtain ⟨h15, h23, _⟩ := hF
          have e15 : val 15 = .bool false := h15 _ (Frm.refl _ W)
          have e23 : val 23 = .bool false := h23 _ (Frm.refl _ W)
          try simp only [e23]
          try simp only [e15]
          try simp only [tupAt]
          refine OpOK.val (u := .bool false) (by rfl) ?_ (fun W' _ => rfl)
          try simp only [e23]
          try simp only [e15]
          try simp only [tupAt]
          first | (go_simp; done) | (go_simp; with_reducible rfl) | (go_simp; rfl)
        try simp only [Act.put, List.setIfInBounds_toArray, List.set_cons_zero, List.set_cons_succ]
        exact RelO.nil
      intro val w5 gW hF
      obtain ⟨h0, h1, h2, h3, h4, h5, h6, h7, h8, h9, h10, h11, h12, h13, h14, h15, h16, h17, h18, h19, h20, h21, h22, h23, h24, hT⟩ := hF
      have e0 : val 0 = .int .i64 (k : Int) := h0 _ (Frm.refl _ w5)
      have e1 : val 1 = .pointer (some ⟨N, 8, none⟩) := h1 _ (Frm.refl _ w5)
      have e2 : val 2 = .slice (some ⟨g, off, none⟩) n cap := h2 _ (Frm.refl _ w5)
      have e3 : val 3 = .int .i64 (n : Int) := h3 _ (Frm.refl _ w5)
      have e4 : val 4 = .bool false := h4 _ (Frm.refl _ w5)
      have e5 : val 5 = .bool false := h5 _ (Frm.refl _ w5)
      have e6 : val 6 = .pointer (some ⟨N, 8, none⟩) := h6 _ (Frm.refl _ w5)
      have e7 : val 7 = .slice (some ⟨g, off, none⟩) n cap := h7 _ (Frm.refl _ w5)
      have e8 : val 8 = .int .i64 (k : Int) := h8 _ (Frm.refl _ w5)
      have e9 : val 9 = .pointer (some ⟨g, off + k * 3, none⟩) := h9 _ (Frm.refl _ w5)
      have e10 : val 10 = .pointer (some ⟨g, off + k * 3, none⟩) := h10 _ (Frm.refl _ w5)
      have e11 : val 11 = .agg (dv x.r x.n) := h11 _ (Frm.refl _ w5)
      have e12 : val 12 = .agg (dv x.r x.n) := h12 _ (Frm.refl _ w5)
      have e13 : val 13 = .bool false := h13 _ (Frm.refl _ w5)
      have e14 : val 14 = .bool false := h14 _ (Frm.refl _ w5)
      have e15 : val 15 = .bool false := h15 _ (Frm.refl _ w5)
      have e16 : val 16 = .pointer (some ⟨N, 8, none⟩) := h16 _ (Frm.refl _ w5)
      have e17 : val 17 = .slice (some ⟨g, off, none⟩) n cap := h17 _ (Frm.refl _ w5)
      have e18 : val 18 = .int .i64 (k : Int) := h18 _ (Frm.refl _ w5)
      have e19 : val 19 = .pointer (some ⟨g, off + k * 3, none⟩) := h19 _ (Frm.refl _ w5)
      have e20 : val 20 = .pointer (some ⟨g, off + k * 3 + 2, none⟩) := h20 _ (Frm.refl _ w5)
      have e21 : val 21 = .string (bs x.s) := h21 _ (Frm.refl _ w5)
      have e22 : val 22 = .string (bs x.s) := h22 _ (Frm.refl _ w5)
      have e23 : val 23 = .bool false := h23 _ (Frm.refl _ w5)
      have e24 : val 24 = .bool false := h24 _ (Frm.refl _ w5)
      clear hT h0 h1 h2 h3 h4 h5 h6 h7 h8 h9 h10 h11 h12 h13 h14 h15 h16 h17 h18 h19 h20 h21 h22 h23 h24
      simp only [aO, Act.put, List.setIfInBounds_toArray, List.set_cons_zero, List.set_cons_succ, Nat.reduceAdd]
      try simp only [e24]
      try simp only [e23]
      try simp only [e22]
      try simp only [e21]
      try simp only [e20]
      try simp only [e19]
      try simp only [e18]
      try simp only [e17]
      try simp only [e16]
      try simp only [e15]
      try simp only [e14]
      try simp only [e13]
      try simp only [e12]
      try simp only [e11]
      try simp only [e10]
      try simp only [e9]
      try simp only [e8]
      try simp only [e7]
      try simp only [e6]
      try simp only [e5]
      try simp only [e4]
      try simp only [e3]
      try simp only [e2]
      try simp only [e1]
      try simp only [e0]
      try simp only [tupAt]
      refine wpTail.doneN ?_
      have F5 := D.trans gW
      clear gW D e0 e1 e2 e3 e4 e5 e6 e7 e8 e9 e10 e11 e12 e13 e14 e15 e16 e17 e18 e19 e20 e21 e22 e23 e24
      have cc := (HC.out _ F5).cell 0 rfl
      have fc := (HC.out _ F5).free 0
      gi_wp2
      have hX2 : Frm (fun k => k = C) wr (w5.setCell ⟨C, 0, none⟩ (.int .i64 ((k : Int) + 1))) := (F5.mono (Y := fun q => q = C) fun _ _ h => h.elim).setCell (p := ⟨C, 0, none⟩) (fun _ => rfl) _
      have hnc : N ≠ C ∧ N + 1 ≠ C := by have := HCC.out; have := HNN.out; omega
      refine ⟨(hX2.others fun q o hq ho2 => (HC.out _ (Frm.refl _ _)).isCells _ o hq ho2).from _, fun q hq => hX2.block q (by have := hK3 q hq; have := HI.out.size; have := HCC.out; omega) (fun e => by have e : q = C := e; have := hK3 q hq; have := HCC.out; omega), ?_, ?_, ?_, ?_, ?_, ?_⟩
      · exact HI.out.reg.keep hX2 (fun e => by have e : w.heap.size = C := e; have := HNN.out; omega)
      · exact h.keepF (HI.out.frm.next hX2 (fun q hq e => by have e : q = C := e; have := HCC.out; omega))
      · have := (HC.out _ F5).set 0 (.int .i64 ((k : Int) + 1))
        rw [show ((pre ++ [x]).length : Int) = (k : Int) + 1 from by rw [List.length_append, HKK.out]; simp]
        exact this
      · exact HI.out.res.keep hX2 (fun e => by have e : w.heap.size + 1 = C := e; have := HNN.out; omega)
      · exact HI.out.frm.next hX2 (fun q hq e => by have e : q = C := e; have := HCC.out; omega)
      · have := HI.out.size; have := hX2.size; have := HCC.out; omega
    · have HP := Lib.hid (show ¬ (pre ++ [x]) <+: l from fun hp => hxy (by
        have h1 := hp.getElem (i := pre.length) (by simp)
        rw [HY.out] at h1
        simp at h1
        exact h1.symm))
      by_cases hd : y.d = x.d
      · have hs : y.s ≠ x.s := fun e => hxy (SibI.ext' (congrArg DotI.r hd) (congrArg DotI.n hd) e)
        have HE1 : Hid (∀ W, (Op.equalIn 10000 27 (.agg (dv y.r y.n)) (.agg (dv x.r x.n))).run Try.prog W = .ok true W) := Lib.hid fun W => by rw [run_eq_dot, show (y.r == x.r && y.n == x.n) = decide (y.d = x.d) from dot_beq y.d x.d]; simp [hd]
        have HE2 : Hid (((bs y.s).toList == (bs x.s).toList) = false) := Lib.hid (by rw [bs_toList, bs_toList]; simpa using hs)
        clear hd hs hxy
        refine wpIn_block ?_
        refine wpIn_seq ?_
        refine wpIn_seq ?_
        refine wpIn_region_late 25 0 [] [[], [], [1], [2], [0, 3], [4], [5], [5, 6], [5], [5, 7, 8], [5, 9], [5, 10], [5], [5, 11, 12], [5, 13], [14], [15], [15, 16], [15], [15, 17, 18], [15, 19], [15, 20], [15], [15, 21, 22], [15, 23]] gn8cM (gn8cR N g off k n cap x y) (by rintro ⟨_, _, h⟩; exact h) (by kernel_rfl) (by kernel_rfl) rfl rfl rfl (by kernel_rfl) (by kernel_rfl) (by kernel_rfl) (by kernel_rfl) rfl (by kernel_rfl) (by kernel_rfl) (by kernel_rfl) (by kernel_rfl) (fun val => ?_) ?_
        · try dsimp only
          refine RelO.next (k' := 1) rfl (fun W gW hF => ?_) ?_
          focus
            have c0 := (HC.out W (D.trans gW)).cell 0 rfl
            exact OpOK.val (u := .int .i64 (k : Int)) (by rfl) (by first | (go_simp; done) | (go_simp; with_reducible rfl) | (go_simp; rfl)) (fun W' _ => rfl)
          try simp only [Act.put, List.setIfInBounds_toArray, List.set_cons_zero, List.set_cons_succ]
          refine RelO.next (k' := 2) rfl (fun W gW hF => ?_) ?_
          focus
            refine OpOK.val (u := .pointer (some ⟨N, 8, none⟩)) (by rfl) ?_ (fun W' _ => rfl)
            try simp only [tupAt]
            first | (go_simp; done) | (go_simp; with_reducible rfl) | (go_simp; rfl)
          try simp only [Act.put, List.setIfInBounds_toArray, List.set_cons_zero, List.set_cons_succ]
          refine RelO.next (k' := 3) rfl (fun W gW hF => ?_) ?_
          focus
            obtain ⟨h1, _⟩ := hF
            have e1 : val 1 = .pointer (some ⟨N, 8, none⟩) := h1 _ (Frm.refl _ W)
            try simp only [e1]
            try simp only [tupAt]
            have c8 := (HB.out W (D.trans gW)).cell 8 rfl
            have a3 := Try.isAgg37
            have z3 := Try.sizeOf37
            exact OpOK.val (u := .slice (some ⟨g, off, none⟩) n cap) (by rfl) (by first | (go_simp; done) | (go_simp; with_reducible rfl) | (go_simp; rfl)) (fun W' _ => rfl)
          try simp only [Act.put, List.setIfInBounds_toArray, List.set_cons_zero, List.set_cons_succ]
          refine RelO.next (k' := 4) rfl (fun W gW hF => ?_) ?_
          focus
            obtain ⟨h2, _⟩ := hF
            have e2 : val 2 = .slice (some ⟨g, off, none⟩) n cap := h2 _ (Frm.refl _ W)
            try simp only [e2]
            try simp only [tupAt]
            refine OpOK.val (u := .int .i64 (n : Int)) (by rfl) ?_ (fun W' _ => rfl)
            try simp only [e2]
            try simp only [tupAt]
            first | (go_simp; done) | (go_simp; with_reducible rfl) | (go_simp; rfl)
          try simp only [Act.put, List.setIfInBounds_toArray, List.set_cons_zero, List.set_cons_succ]
          refine RelO.next (k' := 5) rfl (fun W gW hF => ?_) ?_
          focus
            obtain ⟨h0, h3, _⟩ := hF
            have e0 : val 0 = .int .i64 (k : Int) := h0 _ (Frm.refl _ W)
            have e3 : val 3 = .int .i64 (n : Int) := h3 _ (Frm.refl _ W)
            try simp only [e3]
            try simp only [e0]
            try simp only [tupAt]
            refine OpOK.val (u := .bool false) (by rfl) ?_ (fun W' _ => rfl)
            try simp only [e3]
            try simp only [e0]
            try simp only [tupAt]
            first | (go_simp; done) | (go_simp; with_reducible rfl) | (go_simp; rfl)
          try simp only [Act.put, List.setIfInBounds_toArray, List.set_cons_zero, List.set_cons_succ]
          refine RelO.next (k' := 6) rfl (fun W gW hF => ?_) ?_
          focus
            obtain ⟨h4, _⟩ := hF
            have e4 : val 4 = .bool false := h4 _ (Frm.refl _ W)
            try simp only [e4]
            try simp only [tupAt]
            refine OpOK.val (u := .bool false) (by rfl) ?_ (fun W' _ => rfl)
            try simp only [e4]
            try simp only [tupAt]
            first | (go_simp; done) | (go_simp; with_reducible rfl) | (go_simp; rfl)
          try simp only [Act.put, List.setIfInBounds_toArray, List.set_cons_zero, List.set_cons_succ]
          refine RelO.next (k' := 7) rfl (fun W gW hF => ?_) ?_
          focus
            obtain ⟨h5, _⟩ := hF
            have e5 : val 5 = .bool false := h5 _ (Frm.refl _ W)
            try simp only [e5]
            try simp only [tupAt]
            refine OpOK.val (u := .pointer (some ⟨N, 8, none⟩)) (by rfl) ?_ (fun W' _ => rfl)
            try simp only [e5]
            try simp only [tupAt]
            first | (go_simp; done) | (go_simp; with_reducible rfl) | (go_simp; rfl)
          try simp only [Act.put, List.setIfInBounds_toArray, List.set_cons_zero, List.set_cons_succ]
          refine RelO.next (k' := 8) rfl (fun W gW hF => ?_) ?_
          focus
            obtain ⟨h5, h6, _⟩ := hF
            have e5 : val 5 = .bool false := h5 _ (Frm.refl _ W)
            have e6 : val 6 = .pointer (some ⟨N, 8, none⟩) := h6 _ (Frm.refl _ W)
            try simp only [e6]
            try simp only [e5]
            try simp only [tupAt]
            have c8 := (HB.out W (D.trans gW)).cell 8 rfl
            have a3 := Try.isAgg37
            have z3 := Try.sizeOf37
            exact OpOK.val (u := .slice (some ⟨g, off, none⟩) n cap) (by rfl) (by first | (go_simp; done) | (go_simp; with_reducible rfl) | (go_simp; rfl)) (fun W' _ => rfl)
          try simp only [Act.put, List.setIfInBounds_toArray, List.set_cons_zero, List.set_cons_succ]
          refine RelO.next (k' := 9) rfl (fun W gW hF => ?_) ?_
          focus
            obtain ⟨h5, _⟩ := hF
            have e5 : val 5 = .bool false := h5 _ (Frm.refl _ W)
            try simp only [e5]
            try simp only [tupAt]
            have c0 := (HC.out W (D.trans gW)).cell 0 rfl
            exact OpOK.val (u := .int .i64 (k : Int)) (by rfl) (by first | (go_simp; done) | (go_simp; with_reducible rfl) | (go_simp; rfl)) (fun W' _ => rfl)
          try simp only [Act.put, List.setIfInBounds_toArray, List.set_cons_zero, List.set_cons_succ]
          refine RelO.next (k' := 10) rfl (fun W gW hF => ?_) ?_
          focus
            obtain ⟨h5, h7, h8, _⟩ := hF
            have e5 : val 5 = .bool false := h5 _ (Frm.refl _ W)
            have e7 : val 7 = .slice (some ⟨g, off, none⟩) n cap := h7 _ (Frm.refl _ W)
            have e8 : val 8 = .int .i64 (k : Int) := h8 _ (Frm.refl _ W)
            try simp only [e8]
            try simp only [e7]
            try simp only [e5]
            try simp only [tupAt]
            refine OpOK.val (u := .pointer (some ⟨g, off + k * 3, none⟩)) (by rfl) ?_ (fun W' _ => rfl)
            try simp only [e8]
            try simp only [e7]
            try simp only [e5]
            try simp only [tupAt]
            first | (go_simp; done) | (go_simp; with_reducible rfl) | (go_simp; rfl)
          try simp only [Act.put, List.setIfInBounds_toArray, List.set_cons_zero, List.set_cons_succ]
          refine RelO.next (k' := 11) rfl (fun W gW hF => ?_) ?_
          focus
            obtain ⟨h5, h9, _⟩ := hF
            have e5 : val 5 = .bool false := h5 _ (Frm.refl _ W)
            have e9 : val 9 = .pointer (some ⟨g, off + k * 3, none⟩) := h9 _ (Frm.refl _ W)
            try simp only [e9]
            try simp only [e5]
            try simp only [tupAt]
            refine OpOK.val (u := .pointer (some ⟨g, off + k * 3, none⟩)) (by rfl) ?_ (fun W' _ => rfl)
            try simp only [e9]
            try simp only [e5]
            try simp only [tupAt]
            first | (go_simp; done) | (go_simp; with_reducible rfl) | (go_simp; rfl)
          try simp only [Act.put, List.setIfInBounds_toArray, List.set_cons_zero, List.set_cons_succ]
          refine RelO.next (k' := 12) rfl (fun W gW hF => ?_) ?_
          focus
            obtain ⟨h5, h10, _⟩ := hF
            have e5 : val 5 = .bool false := h5 _ (Frm.refl _ W)
            have e10 : val 10 = .pointer (some ⟨g, off + k * 3, none⟩) := h10 _ (Frm.refl _ W)
            try simp only [e10]
            try simp only [e5]
            try simp only [tupAt]
            obtain ⟨x0, x1, x2⟩ := HX.out W (D.trans gW)
            exact OpOK.val (u := .agg (dv y.r y.n)) (by rfl) (by first | (go_simp; done) | (go_simp; with_reducible rfl) | (go_simp; rfl)) (fun W' _ => rfl)
          try simp only [Act.put, List.setIfInBounds_toArray, List.set_cons_zero, List.set_cons_succ]
          refine RelO.next (k' := 13) rfl (fun W gW hF => ?_) ?_
          focus
            obtain ⟨h5, _⟩ := hF
            have e5 : val 5 = .bool false := h5 _ (Frm.refl _ W)
            try simp only [e5]
            try simp only [tupAt]
            exact OpOK.load (by rfl) _ rfl (by rfl) (load_dotB (HD.out W (D.trans gW))) (fun W' _ => rfl)
          try simp only [Act.put, List.setIfInBounds_toArray, List.set_cons_zero, List.set_cons_succ]
          refine RelO.next (k' := 14) rfl (fun W gW hF => ?_) ?_
          focus
            obtain ⟨h5, h11, h12, _⟩ := hF
            have e5 : val 5 = .bool false := h5 _ (Frm.refl _ W)
            have e11 : val 11 = .agg (dv y.r y.n) := h11 _ (Frm.refl _ W)
            have e12 : val 12 = .agg (dv x.r x.n) := h12 _ (Frm.refl _ W)
            try simp only [e12]
            try simp only [e11]
            try simp only [e5]
            try simp only [tupAt]
            have E := HE1.out
            exact OpOK.val (u := .bool false) (by rfl) (by first | (go_simp; done) | (go_simp; with_reducible rfl) | (go_simp; rfl)) (fun W' _ => rfl)
          try simp only [Act.put, List.setIfInBounds_toArray, List.set_cons_zero, List.set_cons_succ]
          refine RelO.next (k' := 15) rfl (fun W gW hF => ?_) ?_
          focus
            obtain ⟨h5, h13, _⟩ := hF
            have e5 : val 5 = .bool false := h5 _ (Frm.refl _ W)
            have e13 : val 13 = .bool false := h13 _ (Frm.refl _ W)
            try simp only [e13]
            try simp only [e5]
            try simp only [tupAt]
            refine OpOK.val (u := .bool false) (by rfl) ?_ (fun W' _ => rfl)
            try simp only [e13]
            try simp only [e5]
            try simp only [tupAt]
            first | (go_simp; done) | (go_simp; with_reducible rfl) | (go_simp; rfl)
          try simp only [Act.put, List.setIfInBounds_toArray, List.set_cons_zero, List.set_cons_succ]
          refine RelO.next (k' := 16) rfl (fun W gW hF => ?_) ?_
          focus
            obtain ⟨h14, _⟩ := hF
            have e14 : val 14 = .bool false := h14 _ (Frm.refl _ W)
            try simp only [e14]
            try simp only [tupAt]
            refine OpOK.val (u := .bool false) (by rfl) ?_ (fun W' _ => rfl)
            try simp only [e14]
            try simp only [tupAt]
            first | (go_simp; done) | (go_simp; with_reducible rfl) | (go_simp; rfl)
          try simp only [Act.put, List.setIfInBounds_toArray, List.set_cons_zero, List.set_cons_succ]
          refine RelO.next (k' := 17) rfl (fun W gW hF => ?_) ?_
          focus
            obtain ⟨h15, _⟩ := hF
            have e15 : val 15 = .bool false := h15 _ (Frm.refl _ W)
            try simp only [e15]
            try simp only [tupAt]
            refine OpOK.val (u := .pointer (some ⟨N, 8, none⟩)) (by rfl) ?_ (fun W' _ => rfl)
            try simp only [e15]
            try simp only [tupAt]
            first | (go_simp; done) | (go_simp; with_reducible rfl) | (go_simp; rfl)
          try simp only [Act.put, List.setIfInBounds_toArray, List.set_cons_zero, List.set_cons_succ]
          refine RelO.next (k' := 18) rfl (fun W gW hF => ?_) ?_
          focus
            obtain ⟨h15, h16, _⟩ := hF
            have e15 : val 15 = .bool false := h15 _ (Frm.refl _ W)
            have e16 : val 16 = .pointer (some ⟨N, 8, none⟩) := h16 _ (Frm.refl _ W)
            try simp only [e16]
            try simp only [e15]
            try simp only [tupAt]
            have c8 := (HB.out W (D.trans gW)).cell 8 rfl
            have a3 := Try.isAgg37
            have z3 := Try.sizeOf37
            exact OpOK.val (u := .slice (some ⟨g, off, none⟩) n cap) (by rfl) (by first | (go_simp; done) | (go_simp; with_reducible rfl) | (go_simp; rfl)) (fun W' _ => rfl)
          try simp only [Act.put, List.setIfInBounds_toArray, List.set_cons_zero, List.set_cons_succ]
          refine RelO.next (k' := 19) rfl (fun W gW hF => ?_) ?_
          focus
            obtain ⟨h15, _⟩ := hF
            have e15 : val 15 = .bool false := h15 _ (Frm.refl _ W)
            try simp only [e15]
            try simp only [tupAt]
            have c0 := (HC.out W (D.trans gW)).cell 0 rfl
            exact OpOK.val (u := .int .i64 (k : Int)) (by rfl) (by first | (go_simp; done) | (go_simp; with_reducible rfl) | (go_simp; rfl)) (fun W' _ => rfl)
          try simp only [Act.put, List.setIfInBounds_toArray, List.set_cons_zero, List.set_cons_succ]
          refine RelO.next (k' := 20) rfl (fun W gW hF => ?_) ?_
          focus
            obtain ⟨h15, h17, h18, _⟩ := hF
            have e15 : val 15 = .bool false := h15 _ (Frm.refl _ W)
            have e17 : val 17 = .slice (some ⟨g, off, none⟩) n cap := h17 _ (Frm.refl _ W)
            have e18 : val 18 = .int .i64 (k : Int) := h18 _ (Frm.refl _ W)
            try simp only [e18]
            try simp only [e17]
            try simp only [e15]
            try simp only [tupAt]
            refine OpOK.val (u := .pointer (some ⟨g, off + k * 3, none⟩)) (by rfl) ?_ (fun W' _ => rfl)
            try simp only [e18]
            try simp only [e17]
            try simp only [e15]
            try simp only [tupAt]
            first | (go_simp; done) | (go_simp; with_reducible rfl) | (go_simp; rfl)
          try simp only [Act.put, List.setIfInBounds_toArray, List.set_cons_zero, List.set_cons_succ]
          refine RelO.next (k' := 21) rfl (fun W gW hF => ?_) ?_
          focus
            obtain ⟨h15, h19, _⟩ := hF
            have e15 : val 15 = .bool false := h15 _ (Frm.refl _ W)
            have e19 : val 19 = .pointer (some ⟨g, off + k * 3, none⟩) := h19 _ (Frm.refl _ W)
            try simp only [e19]
            try simp only [e15]
            try simp only [tupAt]
            refine OpOK.val (u := .pointer (some ⟨g, off + k * 3 + 2, none⟩)) (by rfl) ?_ (fun W' _ => rfl)
            try simp only [e19]
            try simp only [e15]
            try simp only [tupAt]
            first | (go_simp; done) | (go_simp; with_reducible rfl) | (go_simp; rfl)
          try simp only [Act.put, List.setIfInBounds_toArray, List.set_cons_zero, List.set_cons_succ]
          refine RelO.next (k' := 22) rfl (fun W gW hF => ?_) ?_
          focus
            obtain ⟨h15, h20, _⟩ := hF
            have e15 : val 15 = .bool false := h15 _ (Frm.refl _ W)
            have e20 : val 20 = .pointer (some ⟨g, off + k * 3 + 2, none⟩) := h20 _ (Frm.refl _ W)
            try simp only [e20]
            try simp only [e15]
            try simp only [tupAt]
            obtain ⟨x0, x1, x2⟩ := HX.out W (D.trans gW)
            exact OpOK.val (u := .string (bs y.s)) (by rfl) (by first | (go_simp; done) | (go_simp; with_reducible rfl) | (go_simp; rfl)) (fun W' _ => rfl)
          try simp only [Act.put, List.setIfInBounds_toArray, List.set_cons_zero, List.set_cons_succ]
          refine RelO.next (k' := 23) rfl (fun W gW hF => ?_) ?_
          focus
            obtain ⟨h15, _⟩ := hF
            have e15 : val 15 = .bool false := h15 _ (Frm.refl _ W)
            try simp only [e15]
            try simp only [tupAt]
            refine OpOK.val (u := .string (bs x.s)) (by rfl) ?_ (fun W' _ => rfl)
            try simp only [e15]
            try simp only [tupAt]
            first | (go_simp; done) | (go_simp; with_reducible rfl) | (go_simp; rfl)
          try simp only [Act.put, List.setIfInBounds_toArray, List.set_cons_zero, List.set_cons_succ]
          refine RelO.next (k' := 24) rfl (fun W gW hF => ?_) ?_
          focus
            obtain ⟨h15, h21, h22, _⟩ := hF
            have e15 : val 15 = .bool false := h15 _ (Frm.refl _ W)
            have e21 : val 21 = .string (bs y.s) := h21 _ (Frm.refl _ W)
            have e22 : val 22 = .string (bs x.s) := h22 _ (Frm.refl _ W)
            try simp only [e22]
            try simp only [e21]
            try simp only [e15]
            try simp only [tupAt]
            have E := HE2.out
            exact OpOK.val (u := .bool true) (by rfl) (by first | (go_simp; done) | (go_simp; with_reducible rfl) | (go_simp; rfl)) (fun W' _ => rfl)
          try simp only [Act.put, List.setIfInBounds_toArray, List.set_cons_zero, List.set_cons_succ]
          refine RelO.next (k' := 25) rfl (fun W gW hF => ?_) ?_
          focus
            obtain ⟨h15, h23, _⟩ := hF
            have e15 : val 15 = .bool false := h15 _ (Frm.refl _ W)
            have e23 : val 23 = .bool true := h23 _ (Frm.refl _ W)
            try simp only [e23]
            try simp only [e15]
            try simp only [tupAt]
            refine OpOK.val (u := .bool true) (by rfl) ?_ (fun W' _ => rfl)
            try simp only [e23]
            try simp only [e15]
            try simp only [tupAt]
            first | (go_simp; done) | (go_simp; with_reducible rfl) | (go_simp; rfl)
          try simp only [Act.put, List.setIfInBounds_toArray, List.set_cons_zero, List.set_cons_succ]
          exact RelO.nil
        intro val w5 gW hF
        obtain ⟨h0, h1, h2, h3, h4, h5, h6, h7, h8, h9, h10, h11, h12, h13, h14, h15, h16, h17, h18, h19, h20, h21, h22, h23, h24, hT⟩ := hF
        have e0 : val 0 = .int .i64 (k : Int) := h0 _ (Frm.refl _ w5)
        have e1 : val 1 = .pointer (some ⟨N, 8, none⟩) := h1 _ (Frm.refl _ w5)
        have e2 : val 2 = .slice (some ⟨g, off, none⟩) n cap := h2 _ (Frm.refl _ w5)
        have e3 : val 3 = .int .i64 (n : Int) := h3 _ (Frm.refl _ w5)
        have e4 : val 4 = .bool false := h4 _ (Frm.refl _ w5)
        have e5 : val 5 = .bool false := h5 _ (Frm.refl _ w5)
        have e6 : val 6 = .pointer (some ⟨N, 8, none⟩) := h6 _ (Frm.refl _ w5)
        have e7 : val 7 = .slice (some ⟨g, off, none⟩) n cap := h7 _ (Frm.refl _ w5)
        have e8 : val 8 = .int .i64 (k : Int) := h8 _ (Frm.refl _ w5)
        have e9 : val 9 = .pointer (some ⟨g, off + k * 3, none⟩) := h9 _ (Frm.refl _ w5)
        have e10 : val 10 = .pointer (some ⟨g, off + k * 3, none⟩) := h10 _ (Frm.refl _ w5)
        have e11 : val 11 = .agg (dv y.r y.n) := h11 _ (Frm.refl _ w5)
        have e12 : val 12 = .agg (dv x.r x.n) := h12 _ (Frm.refl _ w5)
        have e13 : val 13 = .bool false := h13 _ (Frm.refl _ w5)
        have e14 : val 14 = .bool false := h14 _ (Frm.refl _ w5)
        have e15 : val 15 = .bool false := h15 _ (Frm.refl _ w5)
        have e16 : val 16 = .pointer (some ⟨N, 8, none⟩) := h16 _ (Frm.refl _ w5)
        have e17 : val 17 = .slice (some ⟨g, off, none⟩) n cap := h17 _ (Frm.refl _ w5)
        have e18 : val 18 = .int .i64 (k : Int) := h18 _ (Frm.refl _ w5)
        have e19 : val 19 = .pointer (some ⟨g, off + k * 3, none⟩) := h19 _ (Frm.refl _ w5)
        have e20 : val 20 = .pointer (some ⟨g, off + k * 3 + 2, none⟩) := h20 _ (Frm.refl _ w5)
        have e21 : val 21 = .string (bs y.s) := h21 _ (Frm.refl _ w5)
        have e22 : val 22 = .string (bs x.s) := h22 _ (Frm.refl _ w5)
        have e23 : val 23 = .bool true := h23 _ (Frm.refl _ w5)
        have e24 : val 24 = .bool true := h24 _ (Frm.refl _ w5)
        clear hT h0 h1 h2 h3 h4 h5 h6 h7 h8 h9 h10 h11 h12 h13 h14 h15 h16 h17 h18 h19 h20 h21 h22 h23 h24
        simp only [aO, Act.put, List.setIfInBounds_toArray, List.set_cons_zero, List.set_cons_succ, Nat.reduceAdd]
        try simp only [e24]
        try simp only [e23]
        try simp only [e22]
        try simp only [e21]
        try simp only [e20]
        try simp only [e19]
        try simp only [e18]
        try simp only [e17]
        try simp only [e16]
        try simp only [e15]
        try simp only [e14]
        try simp only [e13]
        try simp only [e12]
        try simp only [e11]
        try simp only [e10]
        try simp only [e9]
        try simp only [e8]
        try simp only [e7]
        try simp only [e6]
        try simp only [e5]
        try simp only [e4]
        try simp only [e3]
        try simp only [e2]
        try simp only [e1]
        try simp only [e0]
        try simp only [tupAt]
        refine wpTail.doneN ?_
        have F5 := D.trans gW
        clear gW D e0 e1 e2 e3 e4 e5 e6 e7 e8 e9 e10 e11 e12 e13 e14 e15 e16 e17 e18 e19 e20 e21 e22 e23 e24
        have hres := HI.out.res.keep F5 (fun h => h)
        rw [HNN.out] at hres
        have cc := hres.cell 0 rfl
        have fc := hres.free 0
        gi_wp2
        exact ⟨((F5.mono (Y := fun q => q = N + 1) fun _ _ h => h.elim).setCell (p := ⟨N + 1, 0, none⟩) (fun _ => rfl) _ |>.others fun q o hq ho2 => by have := HI.out.res.isCells q o (by rw [HNN.out]; exact hq) ho2; exact this).from _, HP.out⟩
      · have HE1 : Hid (∀ W, (Op.equalIn 10000 27 (.agg (dv y.r y.n)) (.agg (dv x.r x.n))).run Try.prog W = .ok false W) := Lib.hid fun W => by rw [run_eq_dot, show (y.r == x.r && y.n == x.n) = decide (y.d = x.d) from dot_beq y.d x.d]; simp [hd]
        have HE2 := Lib.hid trivial
        clear hd hxy
        refine wpIn_block ?_
        refine wpIn_seq ?_
        refine wpIn_seq ?_
        refine wpIn_region_late 25 0 [] [[], [], [1], [2], [0, 3], [4], [5], [5, 6], [5], [5, 7, 8], [5, 9], [5, 10], [5], [5, 11, 12], [5, 13], [14], [15], [15, 16], [15], [15, 17, 18], [15, 19], [15, 20], [15], [15, 21, 22], [15, 23]] gn8bM (gn8bR N g off k n cap x y) (by rintro ⟨_, _, h⟩; exact h) (by kernel_rfl) (by kernel_rfl) rfl rfl rfl (by kernel_rfl) (by kernel_rfl) (by kernel_rfl) (by kernel_rfl) rfl (by kernel_rfl) (by kernel_rfl) (by kernel_rfl) (by kernel_rfl) (fun val => ?_) ?_
        · try dsimp only
          refine RelO.next (k' := 1) rfl (fun W gW hF => ?_) ?_
          focus
            have c0 := (HC.out W (D.trans gW)).cell 0 rfl
            exact OpOK.val (u := .int .i64 (k : Int)) (by rfl) (by first | (go_simp; done) | (go_simp; with_reducible rfl) | (go_simp; rfl)) (fun W' _ => rfl)
          try simp only [Act.put, List.setIfInBounds_toArray, List.set_cons_zero, List.set_cons_succ]
          refine RelO.next (k' := 2) rfl (fun W gW hF => ?_) ?_
          focus
            refine OpOK.val (u := .pointer (some ⟨N, 8, none⟩)) (by rfl) ?_ (fun W' _ => rfl)
            try simp only [tupAt]
            first | (go_simp; done) | (go_simp; with_reducible rfl) | (go_simp; rfl)
          try simp only [Act.put, List.setIfInBounds_toArray, List.set_cons_zero, List.set_cons_succ]
          refine RelO.next (k' := 3) rfl (fun W gW hF => ?_) ?_
          focus
            obtain ⟨h1, _⟩ := hF
            have e1 : val 1 = .pointer (some ⟨N, 8, none⟩) := h1 _ (Frm.refl _ W)
            try simp only [e1]
            try simp only [tupAt]
            have c8 := (HB.out W (D.trans gW)).cell 8 rfl
            have a3 := Try.isAgg37
            have z3 := Try.sizeOf37
            exact OpOK.val (u := .slice (some ⟨g, off, none⟩) n cap) (by rfl) (by first | (go_simp; done) | (go_simp; with_reducible rfl) | (go_simp; rfl)) (fun W' _ => rfl)
          try simp only [Act.put, List.setIfInBounds_toArray, List.set_cons_zero, List.set_cons_succ]
          refine RelO.next (k' := 4) rfl (fun W gW hF => ?_) ?_
          focus
            obtain ⟨h2, _⟩ := hF
            have e2 : val 2 = .slice (some ⟨g, off, none⟩) n cap := h2 _ (Frm.refl _ W)
            try simp only [e2]
            try simp only [tupAt]
            refine OpOK.val (u := .int .i64 (n : Int)) (by rfl) ?_ (fun W' _ => rfl)
            try simp only [e2]
            try simp only [tupAt]
            first | (go_simp; done) | (go_simp; with_reducible rfl) | (go_simp; rfl)
          try simp only [Act.put, List.setIfInBounds_toArray, List.set_cons_zero, List.set_cons_succ]
          refine RelO.next (k' := 5) rfl (fun W gW hF => ?_) ?_
          focus
            obtain ⟨h0, h3, _⟩ := hF
            have e0 : val 0 = .int .i64 (k : Int) := h0 _ (Frm.refl _ W)
            have e3 : val 3 = .int .i64 (n : Int) := h3 _ (Frm.refl _ W)
            try simp only [e3]
            try simp only [e0]
            try simp only [tupAt]
            refine OpOK.val (u := .bool false) (by rfl) ?_ (fun W' _ => rfl)
            try simp only [e3]
            try simp only [e0]
            try simp only [tupAt]
            first | (go_simp; done) | (go_simp; with_reducible rfl) | (go_simp; rfl)
          try simp only [Act.put, List.setIfInBounds_toArray, List.set_cons_zero, List.set_cons_succ]
          refine RelO.next (k' := 6) rfl (fun W gW hF => ?_) ?_
          focus
            obtain ⟨h4, _⟩ := hF
            have e4 : val 4 = .bool false := h4 _ (Frm.refl _ W)
            try simp only [e4]
            try simp only [tupAt]
            refine OpOK.val (u := .bool false) (by rfl) ?_ (fun W' _ => rfl)
            try simp only [e4]
            try simp only [tupAt]
            first | (go_simp; done) | (go_simp; with_reducible rfl) | (go_simp; rfl)
          try simp only [Act.put, List.setIfInBounds_toArray, List.set_cons_zero, List.set_cons_succ]
          refine RelO.next (k' := 7) rfl (fun W gW hF => ?_) ?_
          focus
            obtain ⟨h5, _⟩ := hF
            have e5 : val 5 = .bool false := h5 _ (Frm.refl _ W)
            try simp only [e5]
            try simp only [tupAt]
            refine OpOK.val (u := .pointer (some ⟨N, 8, none⟩)) (by rfl) ?_ (fun W' _ => rfl)
            try simp only [e5]
            try simp only [tupAt]
            first | (go_simp; done) | (go_simp; with_reducible rfl) | (go_simp; rfl)
          try simp only [Act.put, List.setIfInBounds_toArray, List.set_cons_zero, List.set_cons_succ]
          refine RelO.next (k' := 8) rfl (fun W gW hF => ?_) ?_
          focus
            obtain ⟨h5, h6, _⟩ := hF
            have e5 : val 5 = .bool false := h5 _ (Frm.refl _ W)
            have e6 : val 6 = .pointer (some ⟨N, 8, none⟩) := h6 _ (Frm.refl _ W)
            try simp only [e6]
            try simp only [e5]
            try simp only [tupAt]
            have c8 := (HB.out W (D.trans gW)).cell 8 rfl
            have a3 := Try.isAgg37
            have z3 := Try.sizeOf37
            exact OpOK.val (u := .slice (some ⟨g, off, none⟩) n cap) (by rfl) (by first | (go_simp; done) | (go_simp; with_reducible rfl) | (go_simp; rfl)) (fun W' _ => rfl)
          try simp only [Act.put, List.setIfInBounds_toArray, List.set_cons_zero, List.set_cons_succ]
          refine RelO.next (k' := 9) rfl (fun W gW hF => ?_) ?_
          focus
            obtain ⟨h5, _⟩ := hF
            have e5 : val 5 = .bool false := h5 _ (Frm.refl _ W)
            try simp only [e5]
            try simp only [tupAt]
            have c0 := (HC.out W (D.trans gW)).cell 0 rfl
            exact OpOK.val (u := .int .i64 (k : Int)) (by rfl) (by first | (go_simp; done) | (go_simp; with_reducible rfl) | (go_simp; rfl)) (fun W' _ => rfl)
          try simp only [Act.put, List.setIfInBounds_toArray, List.set_cons_zero, List.set_cons_succ]
          refine RelO.next (k' := 10) rfl (fun W gW hF => ?_) ?_
          focus
            obtain ⟨h5, h7, h8, _⟩ := hF
            have e5 : val 5 = .bool false := h5 _ (Frm.refl _ W)
            have e7 : val 7 = .slice (some ⟨g, off, none⟩) n cap := h7 _ (Frm.refl _ W)
            have e8 : val 8 = .int .i64 (k : Int) := h8 _ (Frm.refl _ W)
            try simp only [e8]
            try simp only [e7]
            try simp only [e5]
            try simp only [tupAt]
            refine OpOK.val (u := .pointer (some ⟨g, off + k * 3, none⟩)) (by rfl) ?_ (fun W' _ => rfl)
            try simp only [e8]
            try simp only [e7]
            try simp only [e5]
            try simp only [tupAt]
            first | (go_simp; done) | (go_simp; with_reducible rfl) | (go_simp; rfl)
          try simp only [Act.put, List.setIfInBounds_toArray, List.set_cons_zero, List.set_cons_succ]
          refine RelO.next (k' := 11) rfl (fun W gW hF => ?_) ?_
          focus
            obtain ⟨h5, h9, _⟩ := hF
            have e5 : val 5 = .bool false := h5 _ (Frm.refl _ W)
            have e9 : val 9 = .pointer (some ⟨g, off + k * 3, none⟩) := h9 _ (Frm.refl _ W)
            try simp only [e9]
            try simp only [e5]
            try simp only [tupAt]
            refine OpOK.val (u := .pointer (some ⟨g, off + k * 3, none⟩)) (by rfl) ?_ (fun W' _ => rfl)
            try simp only [e9]
            try simp only [e5]
            try simp only [tupAt]
            first | (go_simp; done) | (go_simp; with_reducible rfl) | (go_simp; rfl)
          try simp only [Act.put, List.setIfInBounds_toArray, List.set_cons_zero, List.set_cons_succ]
          refine RelO.next (k' := 12) rfl (fun W gW hF => ?_) ?_
          focus
            obtain ⟨h5, h10, _⟩ := hF
            have e5 : val 5 = .bool false := h5 _ (Frm.refl _ W)
            have e10 : val 10 = .pointer (some ⟨g, off + k * 3, none⟩) := h10 _ (Frm.refl _ W)
            try simp only [e10]
            try simp only [e5]
            try simp only [tupAt]
            obtain ⟨x0, x1, x2⟩ := HX.out W (D.trans gW)
            exact OpOK.val (u := .agg (dv y.r y.n)) (by rfl) (by first | (go_simp; done) | (go_simp; with_reducible rfl) | (go_simp; rfl)) (fun W' _ => rfl)
          try simp only [Act.put, List.setIfInBounds_toArray, List.set_cons_zero, List.set_cons_succ]
          refine RelO.next (k' := 13) rfl (fun W gW hF => ?_) ?_
          focus
            obtain ⟨h5, _⟩ := hF
            have e5 : val 5 = .bool false := h5 _ (Frm.refl _ W)
            try simp only [e5]
            try simp only [tupAt]
            exact OpOK.load (by rfl) _ rfl (by rfl) (load_dotB (HD.out W (D.trans gW))) (fun W' _ => rfl)
          try simp only [Act.put, List.setIfInBounds_toArray, List.set_cons_zero, List.set_cons_succ]
          refine RelO.next (k' := 14) rfl (fun W gW hF => ?_) ?_
          focus
            obtain ⟨h5, h11, h12, _⟩ := hF
            have e5 : val 5 = .bool false := h5 _ (Frm.refl _ W)
            have e11 : val 11 = .agg (dv y.r y.n) := h11 _ (Frm.refl _ W)
            have e12 : val 12 = .agg (dv x.r x.n) := h12 _ (Frm.refl _ W)
            try simp only [e12]
            try simp only [e11]
            try simp only [e5]
            try simp only [tupAt]
            have E := HE1.out
            exact OpOK.val (u := .bool true) (by rfl) (by first | (go_simp; done) | (go_simp; with_reducible rfl) | (go_simp; rfl)) (fun W' _ => rfl)
          try simp only [Act.put, List.setIfInBounds_toArray, List.set_cons_zero, List.set_cons_succ]
          refine RelO.next (k' := 15) rfl (fun W gW hF => ?_) ?_
          focus
            obtain ⟨h5, h13, _⟩ := hF
            have e5 : val 5 = .bool false := h5 _ (Frm.refl _ W)
            have e13 : val 13 = .bool true := h13 _ (Frm.refl _ W)
            try simp only [e13]
            try simp only [e5]
            try simp only [tupAt]
            refine OpOK.val (u := .bool true) (by rfl) ?_ (fun W' _ => rfl)
            try simp only [e13]
            try simp only [e5]
            try simp only [tupAt]
            first | (go_simp; done) | (go_simp; with_reducible rfl) | (go_simp; rfl)
          try simp only [Act.put, List.setIfInBounds_toArray, List.set_cons_zero, List.set_cons_succ]
          refine RelO.next (k' := 16) rfl (fun W gW hF => ?_) ?_
          focus
            obtain ⟨h14, _⟩ := hF
            have e14 : val 14 = .bool true := h14 _ (Frm.refl _ W)
            try simp only [e14]
            try simp only [tupAt]
            refine OpOK.val (u := .bool true) (by rfl) ?_ (fun W' _ => rfl)
            try simp only [e14]
            try simp only [tupAt]
            first | (go_simp; done) | (go_simp; with_reducible rfl) | (go_simp; rfl)
          try simp only [Act.put, List.setIfInBounds_toArray, List.set_cons_zero, List.set_cons_succ]
          refine RelO.next (k' := 17) rfl (fun W gW hF => ?_) ?_
          focus
            obtain ⟨h15, _⟩ := hF
            have e15 : val 15 = .bool true := h15 _ (Frm.refl _ W)
            try simp only [e15]
            try simp only [tupAt]
            exact OpOK.skip (by rfl) (fun W' _ => rfl)
          try simp only [Act.put, List.setIfInBounds_toArray, List.set_cons_zero, List.set_cons_succ]
          refine RelO.next (k' := 18) rfl (fun W gW hF => ?_) ?_
          focus
            obtain ⟨h15, h16, _⟩ := hF
            have e15 : val 15 = .bool true := h15 _ (Frm.refl _ W)
            have e16 : val 16 = undef := h16 _ (Frm.refl _ W)
            try simp only [e16]
            try simp only [e15]
            try simp only [tupAt]
            exact OpOK.skip (by rfl) (fun W' _ => rfl)
          try simp only [Act.put, List.setIfInBounds_toArray, List.set_cons_zero, List.set_cons_succ]
          refine RelO.next (k' := 19) rfl (fun W gW hF => ?_) ?_
          focus
            obtain ⟨h15, _⟩ := hF
            have e15 : val 15 = .bool true := h15 _ (Frm.refl _ W)
            try simp only [e15]
            try simp only [tupAt]
            exact OpOK.skip (by rfl) (fun W' _ => rfl)
          try simp only [Act.put, List.setIfInBounds_toArray, List.set_cons_zero, List.set_cons_succ]
          refine RelO.next (k' := 20) rfl (fun W gW hF => ?_) ?_
          focus
            obtain ⟨h15, h17, h18, _⟩ := hF
            have e15 : val 15 = .bool true := h15 _ (Frm.refl _ W)
            have e17 : val 17 = undef := h17 _ (Frm.refl _ W)
            have e18 : val 18 = undef := h18 _ (Frm.refl _ W)
            try simp only [e18]
            try simp only [e17]
            try simp only [e15]
            try simp only [tupAt]
            exact OpOK.skip (by rfl) (fun W' _ => rfl)
          try simp only [Act.put, List.setIfInBounds_toArray, List.set_cons_zero, List.set_cons_succ]
          refine RelO.next (k' := 21) rfl (fun W gW hF => ?_) ?_
          focus
            obtain ⟨h15, h19, _⟩ := hF
            have e15 : val 15 = .bool true := h15 _ (Frm.refl _ W)
            have e19 : val 19 = undef := h19 _ (Frm.refl _ W)
            try simp only [e19]
            try simp only [e15]
            try simp only [tupAt]
            exact OpOK.skip (by rfl) (fun W' _ => rfl)
          try simp only [Act.put, List.setIfInBounds_toArray, List.set_cons_zero, List.set_cons_succ]
          refine RelO.next (k' := 22) rfl (fun W gW hF => ?_) ?_
          focus
            obtain ⟨h15, h20, _⟩ := hF
            have e15 : val 15 = .bool true := h15 _ (Frm.refl _ W)
            have e20 : val 20 = undef := h20 _ (Frm.refl _ W)
            try simp only [e20]
            try simp only [e15]
            try simp only [tupAt]
            exact OpOK.skip (by rfl) (fun W' _ => rfl)
          try simp only [Act.put, List.setIfInBounds_toArray, List.set_cons_zero, List.set_cons_succ]
          refine RelO.next (k' := 23) rfl (fun W gW hF => ?_) ?_
          focus
            obtain ⟨h15, _⟩ := hF
            have e15 : val 15 = .bool true := h15 _ (Frm.refl _ W)
            try simp only [e15]
            try simp only [tupAt]
            exact OpOK.skip (by rfl) (fun W' _ => rfl)
          try simp only [Act.put, List.setIfInBounds_toArray, List.set_cons_zero, List.set_cons_succ]
          refine RelO.next (k' := 24) rfl (fun W gW hF => ?_) ?_
          focus
            obtain ⟨h15, h21, h22, _⟩ := hF
            have e15 : val 15 = .bool true := h15 _ (Frm.refl _ W)
            have e21 : val 21 = undef := h21 _ (Frm.refl _ W)
            have e22 : val 22 = undef := h22 _ (Frm.refl _ W)
            try simp only [e22]
            try simp only [e21]
            try simp only [e15]
            try simp only [tupAt]
            exact OpOK.skip (by rfl) (fun W' _ => rfl)
          try simp only [Act.put, List.setIfInBounds_toArray, List.set_cons_zero, List.set_cons_succ]
          refine RelO.next (k' := 25) rfl (fun W gW hF => ?_) ?_
          focus
            obtain ⟨h15, h23, _⟩ := hF
            have e15 : val 15 = .bool true := h15 _ (Frm.refl _ W)
            have e23 : val 23 = undef := h23 _ (Frm.refl _ W)
            try simp only [e23]
            try simp only [e15]
            try simp only [tupAt]
            refine OpOK.val (u := .bool true) (by rfl) ?_ (fun W' _ => rfl)
            try simp only [e23]
            try simp only [e15]
            try simp only [tupAt]
            first | (go_simp; done) | (go_simp; with_reducible rfl) | (go_simp; rfl)
          try simp only [Act.put, List.setIfInBounds_toArray, List.set_cons_zero, List.set_cons_succ]
          exact RelO.nil
        intro val w5 gW hF
        obtain ⟨h0, h1, h2, h3, h4, h5, h6, h7, h8, h9, h10, h11, h12, h13, h14, h15, h16, h17, h18, h19, h20, h21, h22, h23, h24, hT⟩ := hF
        have e0 : val 0 = .int .i64 (k : Int) := h0 _ (Frm.refl _ w5)
        have e1 : val 1 = .pointer (some ⟨N, 8, none⟩) := h1 _ (Frm.refl _ w5)
        have e2 : val 2 = .slice (some ⟨g, off, none⟩) n cap := h2 _ (Frm.refl _ w5)
        have e3 : val 3 = .int .i64 (n : Int) := h3 _ (Frm.refl _ w5)
        have e4 : val 4 = .bool false := h4 _ (Frm.refl _ w5)
        have e5 : val 5 = .bool false := h5 _ (Frm.refl _ w5)
        have e6 : val 6 = .pointer (some ⟨N, 8, none⟩) := h6 _ (Frm.refl _ w5)
        have e7 : val 7 = .slice (some ⟨g, off, none⟩) n cap := h7 _ (Frm.refl _ w5)
        have e8 : val 8 = .int .i64 (k : Int) := h8 _ (Frm.refl _ w5)
        have e9 : val 9 = .pointer (some ⟨g, off + k * 3, none⟩) := h9 _ (Frm.refl _ w5)
        have e10 : val 10 = .pointer (some ⟨g, off + k * 3, none⟩) := h10 _ (Frm.refl _ w5)
        have e11 : val 11 = .agg (dv y.r y.n) := h11 _ (Frm.refl _ w5)
        have e12 : val 12 = .agg (dv x.r x.n) := h12 _ (Frm.refl _ w5)
        have e13 : val 13 = .bool true := h13 _ (Frm.refl _ w5)
        have e14 : val 14 = .bool true := h14 _ (Frm.refl _ w5)
        have e15 : val 15 = .bool true := h15 _ (Frm.refl _ w5)
        have e16 : val 16 = undef := h16 _ (Frm.refl _ w5)
        have e17 : val 17 = undef := h17 _ (Frm.refl _ w5)
        have e18 : val 18 = undef := h18 _ (Frm.refl _ w5)
        have e19 : val 19 = undef := h19 _ (Frm.refl _ w5)
        have e20 : val 20 = undef := h20 _ (Frm.refl _ w5)
        have e21 : val 21 = undef := h21 _ (Frm.refl _ w5)
        have e22 : val 22 = undef := h22 _ (Frm.refl _ w5)
        have e23 : val 23 = undef := h23 _ (Frm.refl _ w5)
        have e24 : val 24 = .bool true := h24 _ (Frm.refl _ w5)
        clear hT h0 h1 h2 h3 h4 h5 h6 h7 h8 h9 h10 h11 h12 h13 h14 h15 h16 h17 h18 h19 h20 h21 h22 h23 h24
        simp only [aO, Act.put, List.setIfInBounds_toArray, List.set_cons_zero, List.set_cons_succ, Nat.reduceAdd]
        try simp only [e24]
        try simp only [e23]
        try simp only [e22]
        try simp only [e21]
        try simp only [e20]
        try simp only [e19]
        try simp only [e18]
        try simp only [e17]
        try simp only [e16]
        try simp only [e15]
        try simp only [e14]
        try simp only [e13]
        try simp only [e12]
        try simp only [e11]
        try simp only [e10]
        try simp only [e9]
        try simp only [e8]
        try simp only [e7]
        try simp only [e6]
        try simp only [e5]
        try simp only [e4]
        try simp only [e3]
        try simp only [e2]
        try simp only [e1]
        try simp only [e0]
        try simp only [tupAt]
        refine wpTail.doneN ?_
        have F5 := D.trans gW
        clear gW D e0 e1 e2 e3 e4 e5 e6 e7 e8 e9 e10 e11 e12 e13 e14 e15 e16 e17 e18 e19 e20 e21 e22 e23 e24
        have hres := HI.out.res.keep F5 (fun h => h)
        rw [HNN.out] at hres
        have cc := hres.cell 0 rfl
        have fc := hres.free 0
        gi_wp2
        exact ⟨((F5.mono (Y := fun q => q = N + 1) fun _ _ h => h.elim).setCell (p := ⟨N + 1, 0, none⟩) (fun _ => rfl) _ |>.others fun q o hq ho2 => by have := HI.out.res.isCells q o (by rw [HNN.out]; exact hq) ho2; exact this).from _, HP.out⟩
  case done =>
    rintro D xs W hD rfl hi hK
    have hDlt := (Array.getElem?_eq_some_iff.1 hK).1
    have c0 := hi.cnt.cell 0 rfl
    have hreg := hi.reg
    rw [HV.out] at hreg
    have c8 := hreg.cell 8 rfl
    have a3 := Try.isAgg37
    have z3 := Try.sizeOf37
    have cr := hi.res.cell 0 rfl
    have fr := hi.res.free 0
    go_wp2_with fail
    refine calmR_ret ?_
    have hK' := (KeepsOthers.setCell W ⟨w.heap.size + 1, 0, none⟩ (.bool true)).same D _ hK rfl
    have hgp := grownBy_putObj' (W.setCell ⟨w.heap.size + 1, 0, none⟩ (.bool true)) D (.deferred none)
    have hrow : ∀ q, some D = some q → ∃ o : Obj, (W.setCell ⟨w.heap.size + 1, 0, none⟩ (.bool true)).heap[q]? = some o ∧ o.isCells = false := fun q e => by cases e; exact ⟨_, hK', rfl⟩
    have cr2 := ((hi.res.set 0 (.bool true)).turned hgp hrow).cell 0 rfl
    have hf := (hi.frm.setCell (p := ⟨w.heap.size + 1, 0, none⟩) (fun h => absurd h (by simp)) (.bool true)).grown hgp (fun k hk e => by cases e; omega)
    refine ⟨by simp, .inl ⟨_, _, rfl, run_takeDeferred hK', ?_⟩⟩
    refine ⟨.bool true, by simp [results, Try.results36, go_sem, cr2], ?_⟩
    exact ⟨rfl, hf⟩
  case stop =>
    rintro D c pre W _ hS h _
    exact (h hS.1).elim
end Go.Proofs.Ytmdmkcofafhlcaa

