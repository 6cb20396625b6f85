/- A region in memory; what check, made, usable, done, Left of it answer. No condition. -/
import Derived.Test.YtdhnidmeeocajaaGreatRgN
import Derived.Test.YtdhnidmeeocajaaGreatRgB
section
namespace Go.Proofs.YtdhnidmeeocajaaGreat
open Go.RowKit Go.Shelf

/-- A region: where, how many blocks, how many log blocks are used, whether an error was told. -/
structure RV where
  at_ : Nat
  n : Nat
  used : Nat
  bad : Bool
/-- Was an error told? -/
def errB (c : Nat) : Bool := c != 0
def RV.left (R : RV) : Nat := R.n - 1 - R.used
structure RV.ok (R : RV) (N : Nat) : Prop where
  lo : 2 ≤ R.n
  hi : R.at_ + R.n ≤ N
  us : R.used + 1 ≤ R.n
/-- The blocks that calls on a region change. -/
def RgX (g l f x : Nat) (k : Nat) : Prop := k = g ∨ LnX l f x k
/-- The region at block g: its line, and what the line is. -/
structure RgM (w : World) (g l b f x : Nat) (R : RV) (L : LV) : Prop where
  blk : Blk w g 64 #[.pointer (some ⟨g, 0, none⟩), .pointer (some ⟨l, 0, none⟩), .int .i64 (R.at_ : Nat), .int .i64 ((R.n - 1 : Nat) : Int), .int .i64 (R.used : Nat), .bool R.bad]
  ln : LnM w l b f x L
  ne : g ≠ l ∧ g ≠ b ∧ g ≠ f ∧ g ≠ x
  np : L.cs.length = 0 ∨ ∀ k, L.P k → k ≠ g
  rok : R.ok L.D.n
section
variable {w w' : World} {g l b f x : Nat} {R R' : RV} {L L' : LV}
theorem RgM.keepF (h : RgM w g l b f x R L) (hf : Frm (fun _ => False) w w') : RgM w' g l b f x R L := ⟨h.blk.keep hf (fun h => h), h.ln.keepF hf, h.ne, h.np, h.rok⟩
theorem RgM.lt (h : RgM w g l b f x R L) : g < w.heap.size ∧ l < w.heap.size ∧ b < w.heap.size ∧ f < w.heap.size ∧ x < w.heap.size := ⟨h.blk.lt, h.ln.lt⟩
/-- The line did something. -/
theorem RgM.lined (h : RgM w g l b f x R L) (h1 : LnM w' l b f x L') (hg : Frm (LnX l f x) w w') (hP : L'.P = L.P) (hc : L'.cs = L.cs) (hn : L'.D.n = L.D.n) : RgM w' g l b f x R L' :=
  ⟨h.blk.keep hg (notX h.ne.1 h.ne.2.2.1 h.ne.2.2.2), h1, h.ne, by rw [hc, hP]; exact h.np, by rw [hn]; exact h.rok⟩
/-- What is noted of it turned. -/
theorem RgM.noted (h : RgM w g l b f x R L) {used : Nat} {bad : Bool} (hu : used + 1 ≤ R.n) (hb : Blk w' g 64 #[.pointer (some ⟨g, 0, none⟩), .pointer (some ⟨l, 0, none⟩), .int .i64 (R.at_ : Nat), .int .i64 ((R.n - 1 : Nat) : Int), .int .i64 (used : Nat), .bool bad]) (hg : Frm (· = g) w w') : RgM w' g l b f x ⟨R.at_, R.n, used, bad⟩ L :=
  ⟨hb, h.ln.keep hg (fun e => h.ne.1 e.symm) (fun e => h.ne.2.1 e.symm) (fun e => h.ne.2.2.1 e.symm) (fun e => h.ne.2.2.2 e.symm) (h.np.imp id fun q k hk => q k hk), h.ne, h.np, ⟨h.rok.lo, h.rok.hi, hu⟩⟩
theorem RgM.c0 (h : RgM w g l b f x R L) : w.cell? ⟨g, 0, none⟩ = some (.pointer (some ⟨g, 0, none⟩)) := h.blk.cell 0 rfl
theorem RgM.c1 (h : RgM w g l b f x R L) : w.cell? ⟨g, 1, none⟩ = some (.pointer (some ⟨l, 0, none⟩)) := h.blk.cell 1 rfl
theorem RgM.c2 (h : RgM w g l b f x R L) : w.cell? ⟨g, 2, none⟩ = some (.int .i64 (R.at_ : Nat)) := h.blk.cell 2 rfl
theorem RgM.c3 (h : RgM w g l b f x R L) : w.cell? ⟨g, 3, none⟩ = some (.int .i64 ((R.n - 1 : Nat) : Int)) := h.blk.cell 3 rfl
theorem RgM.c4 (h : RgM w g l b f x R L) : w.cell? ⟨g, 4, none⟩ = some (.int .i64 (R.used : Nat)) := h.blk.cell 4 rfl
theorem RgM.c5 (h : RgM w g l b f x R L) : w.cell? ⟨g, 5, none⟩ = some (.bool R.bad) := h.blk.cell 5 rfl
theorem RgM.bound (h : RgM w g l b f x R L) : R.n ≤ 2048 ∧ R.at_ ≤ 2048 ∧ R.used ≤ 2047 := by
  have h1 := h.ln.dev.ok.hi
  have h2 := h.rok.hi
  have h3 := h.rok.us
  omega
end
theorem rg_same (w : World) (a : Addr) : (binOp .eql 37 (.pointer (some a)) (.pointer (some a))).run Tryz.prog w = .ok (.bool true) w := by
  obtain ⟨j, hj⟩ := Option.isSome_iff_exists.1 (show (Tryz.prog.info? 64).isSome = true by kernel_rfl)
  exact run_eql_ptr_same w a Tryz.underlying37 hj
set_option maxHeartbeats 400000 in
theorem rmade_any (g l b f x : Nat) (R : RV) (L : LV) (w : World) (h : RgM w g l b f x R L) :
    Calls Tryz.prog 52 #[.pointer (some ⟨g, 0, none⟩)] w fun e w' => e = .returned (.bool true) ∧ w = w' := by
  have c0 := h.c0
  have hq := rg_same
  clear h
  go_enter Tryz.func52, Tryz.ntmps52
  go_wp2
  go_ret
  exact ⟨rfl, rfl⟩
set_option maxHeartbeats 1000000 in
theorem rusable_any (g l b f x : Nat) (R : RV) (L : LV) (w : World) (h : RgM w g l b f x R L) :
    Calls Tryz.prog 63 #[.pointer (some ⟨g, 0, none⟩)] w fun e w' => e = .returned (.int .i64 (if R.bad then 17 else 0)) ∧ w = w' := by
  have c5 := h.c5
  have HM := Lib.hid (rmade_any g l b f x R L w h)
  clear h
  cases hd : R.bad with
  | true =>
    rw [hd] at c5
    clear hd
    go_enter Tryz.func63, Tryz.ntmps63
    go_wp2_with fail
    refine HM.out.mono ?_
    rintro e w1 ⟨rfl, rfl⟩
    go_wp2_with fail
    go_ret
    exact ⟨rfl, rfl⟩
  | false =>
    rw [hd] at c5
    clear hd
    go_enter Tryz.func63, Tryz.ntmps63
    go_wp2_with fail
    refine HM.out.mono ?_
    rintro e w1 ⟨rfl, rfl⟩
    go_wp2_with fail
    go_ret
    exact ⟨rfl, rfl⟩
set_option maxRecDepth 100000 in
set_option maxHeartbeats 1000000 in
theorem rleft_any (g l b f x : Nat) (R : RV) (L : LV) (w : World) (h : RgM w g l b f x R L) :
    Calls Tryz.prog 19 #[.pointer (some ⟨g, 0, none⟩)] w fun e w' => e = .returned (.int .i64 (R.left : Nat)) ∧ Frm (fun _ => False) w w' := by
  have c3 := h.c3
  have c4 := h.c4
  have HM := Lib.hid (rmade_any g l b f x R L w h)
  have hb := h.bound
  have hu := h.rok.us
  have hsub : ((R.n - 1 : Nat) : Int) - (R.used : Int) = (R.left : Int) := by unfold RV.left; omega
  have hw : IntKind.i64.wrap (R.left : Int) = (R.left : Int) := IntWalk.i64_in _ (by unfold RV.left; omega)
  obtain ⟨m, hm⟩ : ∃ m, R.n - 1 = m := ⟨_, rfl⟩
  rw [hm] at c3 hsub
  clear h hm
  go_enter Tryz.func19, Tryz.ntmps19
  go_wp2_with fail
  refine HM.out.mono ?_
  rintro e w1 ⟨rfl, rfl⟩
  go_wp2_with fail
  go_quiet (fail)
  go_wp2
  go_ret
  exact ⟨rfl, (Frm.refl _ w).drewN _⟩
set_option maxHeartbeats 1000000 in
theorem rdone_any (g l b f x : Nat) (R : RV) (L : LV) (c : Nat) (w : World) (h : RgM w g l b f x R L) :
    Calls Tryz.prog 65 #[.pointer (some ⟨g, 0, none⟩), .int .i64 (c : Nat)] w fun e w' => e = .returned (.int .i64 (c : Nat)) ∧ RgM w' g l b f x { R with bad := errB c } L ∧ Frm (· = g) w w' := by
  have c5 := h.c5
  have f5 := h.blk.free 5
  have hb := h.blk.set 5 (.bool (errB c))
  have gw : Frm (· = g) w (w.setCell ⟨g, 5, none⟩ (.bool (errB c))) := (Frm.refl (· = g) w).setCell (fun _ => rfl) _
  have HR := Lib.hid (And.intro (h.noted h.rok.us hb gw) gw)
  clear h hb gw
  cases hc : errB c with
  | true =>
    rw [hc] at HR
    have hq : ((c : Int) != 0) = true := by unfold errB at hc; simp at hc ⊢; omega
    clear hc
    go_enter Tryz.func65, Tryz.ntmps65
    go_wp2_with fail
    go_ret
    exact ⟨rfl, HR.out⟩
  | false =>
    rw [hc] at HR
    have hq : ((c : Int) != 0) = false := by unfold errB at hc; simp at hc ⊢; omega
    clear hc
    go_enter Tryz.func65, Tryz.ntmps65
    go_wp2_with fail
    go_ret
    exact ⟨rfl, HR.out⟩
end Go.Proofs.YtdhnidmeeocajaaGreat
end
section
namespace Go.Proofs.YtdhnidmeeocajaaGreat
open Go.RowKit Go.Shelf

/-- May there be a region of m blocks from block q on, of N blocks? -/
def rgC (N : Nat) (q m : Int) : Nat := if q < 0 ∨ m < 2 ∨ 65536 < m ∨ (N : Int) - m < q then 2 else 0
theorem rgC_ok {N : Nat} {q m : Int} (h : rgC N q m = 0) : 0 ≤ q ∧ 2 ≤ m ∧ m ≤ 65536 ∧ q + m ≤ N := by
  unfold rgC at h
  split at h
  · cases h
  · rename_i hn
    omega
theorem rdev_eqn (w : World) (a : Addr) : (binOp .eql 28 (.pointer (some a)) (.pointer none)).run Tryz.prog w = .ok (.bool false) w := by
  have h : ∀ d : Nat, (Op.equalIn (d + 1) 28 (.pointer (some a)) (.pointer none)).run Tryz.prog w = .ok false w := fun d => by
    simp [Op.equalIn, run_underlying Tryz.underlying28]
  simp only [binOp]
  simp [Op.equal, Op.maxDepth, h 9999]
set_option maxRecDepth 100000 in
set_option maxHeartbeats 4000000 in
theorem rcheck_any (l b f x : Nat) (L : LV) (q m : Int) (w : World) (h : LnM w l b f x L) (hq : Z64 q) (hm : Z64 m) :
    Calls Tryz.prog 38 #[.pointer (some ⟨l, 0, none⟩), .int .i64 q, .int .i64 m] w fun e w' => e = .returned (.int .i64 (rgC L.D.n q m : Nat)) ∧ w = w' := by
  have HD := Lib.hid (ldev_any l b f x L w h)
  have HB := Lib.hid (blocks_any b f x L.D w h.dev)
  have hN := h.dev.ok.hi
  have hE := rdev_eqn
  obtain ⟨N, hNN⟩ : ∃ N, L.D.n = N := ⟨_, rfl⟩
  rw [hNN] at HB hN ⊢
  unfold Z64 at hq hm
  clear h hNN
  by_cases h1 : q < 0
  · have d1 : decide (q < 0) = true := decide_eq_true h1
    rw [show rgC N q m = 2 from by unfold rgC; rw [if_pos (by omega)]]
    clear h1
    go_enter Tryz.func38, Tryz.ntmps38
    go_wp2_with fail
    refine HD.out.mono ?_
    rintro e w1 ⟨rfl, rfl⟩
    go_wp2_with fail
    go_ret
    exact ⟨rfl, rfl⟩
  · have d1 : decide (q < 0) = false := decide_eq_false h1
    by_cases h2 : m < 2
    · have d2 : decide (m < 2) = true := decide_eq_true h2
      rw [show rgC N q m = 2 from by unfold rgC; rw [if_pos (by omega)]]
      clear h1 h2
      go_enter Tryz.func38, Tryz.ntmps38
      go_wp2_with fail
      refine HD.out.mono ?_
      rintro e w1 ⟨rfl, rfl⟩
      go_wp2_with fail
      go_ret
      exact ⟨rfl, rfl⟩
    · have d2 : decide (m < 2) = false := decide_eq_false h2
      by_cases h3 : 65536 < m
      · have d3 : decide (65536 < m) = true := decide_eq_true h3
        rw [show rgC N q m = 2 from by unfold rgC; rw [if_pos (by omega)]]
        clear h1 h2 h3
        go_enter Tryz.func38, Tryz.ntmps38
        go_wp2_with fail
        refine HD.out.mono ?_
        rintro e w1 ⟨rfl, rfl⟩
        go_wp2_with fail
        go_ret
        exact ⟨rfl, rfl⟩
      · have d3 : decide (65536 < m) = false := decide_eq_false h3
        have hw : IntKind.i64.wrap ((N : Int) - m) = (N : Int) - m := IntWalk.i64_in _ (by omega)
        by_cases h4 : (N : Int) - m < q
        · have d4 : decide ((N : Int) - m < q) = true := decide_eq_true h4
          rw [show rgC N q m = 2 from by unfold rgC; rw [if_pos (by omega)]]
          clear h1 h2 h3 h4
          go_enter Tryz.func38, Tryz.ntmps38
          go_wp2_with fail
          refine HD.out.mono ?_
          rintro e w1 ⟨rfl, rfl⟩
          go_wp2_with fail
          refine HB.out.mono ?_
          rintro e w1 ⟨rfl, rfl⟩
          go_wp2_with fail
          go_ret
          exact ⟨rfl, rfl⟩
        · have d4 : decide ((N : Int) - m < q) = false := decide_eq_false h4
          rw [show rgC N q m = 0 from by unfold rgC; rw [if_neg (by omega)]]
          clear h1 h2 h3 h4
          go_enter Tryz.func38, Tryz.ntmps38
          go_wp2_with fail
          refine HD.out.mono ?_
          rintro e w1 ⟨rfl, rfl⟩
          go_wp2_with fail
          refine HB.out.mono ?_
          rintro e w1 ⟨rfl, rfl⟩
          go_wp2_with fail
          go_ret
          exact ⟨rfl, rfl⟩
/-- What Flush and Seal leave, and answer. -/
def flR (R : RV) (L : LV) : RV × LV × Nat := if R.bad then (R, L, 17) else ({ R with bad := errB (L.seq [DV.flush]).2 }, (L.seq [DV.flush]).1, (L.seq [DV.flush]).2)
def slR (R : RV) (L : LV) (g : Nat) : RV × LV × Nat := if g = 0 then (R, L, 2) else if R.bad then (R, L, 17) else
  ({ R with bad := errB (L.seq [wrD R.at_ (hdB g), DV.flush]).2 }, (L.seq [wrD R.at_ (hdB g), DV.flush]).1, (L.seq [wrD R.at_ (hdB g), DV.flush]).2)
/-- A call on a region: what it answers, and leaves. -/
def RgTo (g l b f x : Nat) (p : RV × LV × Nat) (w : World) (e : Ending) (w' : World) : Prop := e = .returned (.int .i64 (p.2.2 : Nat)) ∧ RgM w' g l b f x p.1 p.2.1 ∧ Frm (RgX g l f x) w w'
theorem seq_one (L : LV) (F : DV → DV) : L.seq [F] = (L.act (F L.D), L.code 0) := by
  rw [LV.seq_cons]
  split
  · rename_i e
    rw [e]; rfl
  · rfl
end Go.Proofs.YtdhnidmeeocajaaGreat
end
