/- SpaceKnown: the chapter's examples; spaces that are none. No condition. -/
import Derived.Test.YtdhnidmeeocajaaSpG
import Derived.Test.YtdhnidmeeocajaaDvAct
namespace Go.Proofs.Ytdhnidmeeocajaa
open Go.RowKit Go.Shelf
attribute [local go_sem] Oper.semAt_some

theorem spseq_neq (w : World) (f : Fn) (a c : Array Value) : (binOp .neq 47 (.func f a c) .nilFunc).run Try.prog w = .ok (.bool true) w := by
  have h : ∀ d : Nat, (Op.equalIn (d + 1) 47 (.func f a c) .nilFunc).run Try.prog w = .ok false w := fun d => by
    simp [Op.equalIn, run_underlying Try.underlying47]
  simp only [binOp]
  simp [Op.equal, Op.maxDepth, h 9999]
set_option maxRecDepth 100000 in
set_option maxHeartbeats 1000000 in
theorem spnone_stops {α : Type} (encs : α → Array Value) (X : Nat → Prop) (p : Option Addr) (Bn : Nat) (w : World) (hB : Blk w Bn 26 #[.pointer p]) (hm : NoSp (.pointer p) w) :
    SeqStopsK Fence.wide 8 Try.prog 33 #[.pointer (some ⟨Bn, 0, none⟩)] encs (keptX X) (fun xs => xs = []) (fun _ => False) 0 w := fun l0 J Jx W hW hJ hJx hY h0 => by
  have hBW : Blk W Bn 26 #[.pointer p] := (hW.block Bn hB.lt).trans hB
  have c0 := hBW.cell 0 rfl
  have hmW := Lib.hid (spmade_no (.pointer p) W (hm.keepF (frm_of_belowS hW)))
  clear hY hm hJ hJx
  refine callsIn_of_wp Try.func33 rfl trivial ?_ rfl
  simp only [Try.ntmps33, List.size_toArray, List.length_cons, List.length_nil, Nat.reduceAdd, Nat.reduceSub, Array.replicate_succ, Array.replicate_zero, List.push_toArray, List.append_toArray, List.nil_append, List.cons_append]
  gi_wp2_with (refine ⟨trivial, ?_⟩; gi_at_call 26; refine (callsIn_wide.2 hmW.out).mono ?_; rintro e w' ⟨rfl, rfl⟩)
  refine bodyPost_ret (results_none rfl _ _ _) rfl ?_
  exact ⟨⟨_, rfl⟩, .inl ⟨[], rfl, h0⟩⟩
set_option maxRecDepth 100000 in
set_option maxHeartbeats 2000000 in
theorem spcount_no (p : Option Addr) (w : World) (h : NoSp (.pointer p) w) : Calls Try.prog 17 #[.pointer p] w fun r w' => r = .returned (.int .i64 0) ∧ Frm (fun _ => False) w w' := by
  refine (callsIn_wide (n := 9)).1 ?_
  refine callsIn_of_wp_marks Try.func17 rfl trivial ?_ rfl
  simp only [Try.ntmps17, List.size_toArray, List.length_cons, List.length_nil, Nat.reduceAdd, Nat.reduceSub, Array.replicate_succ, Array.replicate_zero, List.push_toArray, List.append_toArray, List.nil_append, List.cons_append]
  gi_wp2_with (refine ⟨trivial, ?_⟩; gi_at_call 18; refine (callsIn_wide.2 (spall_any _ _)).mono ?_; rintro e w' ⟨rfl, rfl⟩)
  have hBn : Blk ((w.alloc (.cells #[.int .i64 0] 3)).alloc (.cells #[.pointer p] 26)) (w.heap.size + 1) 26 #[.pointer p] := by
    have := Blk.alloc (w.alloc (.cells #[.int .i64 0] 3)) 26 #[.pointer p]
    simpa using this
  have hI0 : CntI (S := a0) w [] ((w.alloc (.cells #[.int .i64 0] 3)).alloc (.cells #[.pointer p] 26)) := ⟨(Blk.alloc w _ _).old _, ((Frm.refl _ w).alloc _).alloc _⟩
  refine wpIn_rangeFunc_ownF rfl (by omega) (gf := 33) (lb := #[.pointer (some ⟨w.heap.size + 1, 0, none⟩)]) rfl trivial (enters_of Try.func33 (by kernel_rfl) rfl)
    (spnone_stops (α := Fin 0) (fun x => x.elim0) (fun _ => False) p _ _ hBn (h.keepF hI0.frm)) keptX.trans (keptX.put (fun k hk => hk.elim)) (Below.refl _ _) (fun x => x.elim0)
    (fun _ => CntI (S := a0) w []) (fun _ _ _ => False) (fun l => CntI.own (S := a0) w _ (by simp; omega) []) (fun _ _ _ _ _ h _ _ => h) hI0 (fun x => x.elim0) ?assign ?body ?done ?stop
  case assign => exact fun l0 x => x.elim0
  case body => exact fun l0 pre x => x.elim0
  case stop =>
    rintro D c pre W _ _ h _
    exact h.elim
  case done =>
    rintro D xs W hD _ hv hK
    have c0 : W.cell? ⟨w.heap.size, 0, none⟩ = some (.int .i64 0) := hv.n.cell 0 rfl
    have hD2 : w.heap.size ≤ D := by simp at hD; omega
    gi_wp2
    refine ⟨by simp, .inl ⟨_, _, rfl, run_takeDeferred hK, ?_⟩⟩
    exact ⟨_, results_tmp rfl _ _ _, rfl, hv.frm.grown (grownBy_putObj' W D (.deferred none)) (fun k hk e => by cases e; omega)⟩
def b4 : SpV := a3.flip 101
def b5 : SpV := b4.flip 101
def b6 : SpV := b5.flip 102
def b7 : SpV := b6.flip 104
def c0S : SpV := SpV.new 0 256
def c2S : SpV := (c0S.flip 5).flip 7
def d0S : SpV := SpV.new 0 1
def d1S : SpV := d0S.flip 0
/-- Two ints. -/
theorem Zs.two (w : World) (x y : Int) : Zs (w.alloc (.cells #[.int .i64 x, .int .i64 y] 3)) (.slice (some ⟨w.heap.size, 0, none⟩) 2 2) [x, y] :=
  Sl.ofRow (Row.made w 3 1 2 2 (zcs [x, y]) _ rfl (Nat.le_refl _) (by decide) rfl rfl)
theorem Zs.one1 (w : World) (x : Int) : Zs (w.alloc (.cells #[.int .i64 x] 3)) (.slice (some ⟨w.heap.size, 0, none⟩) 1 1) [x] :=
  Sl.ofRow (Row.made w 3 1 1 1 (zcs [x]) _ rfl (Nat.le_refl _) (by decide) rfl rfl)
theorem Zs.none0 (w : World) : Zs w (.slice none 0 0) [] := Sl.nil_ w 1 none 0 (by decide)
/-- Load, of which the numbers are known. -/
theorem spload_yes (a n : Nat) (v : Value) (l : List Int) (S : SpV) (w : World) (h1 : a < 10000) (h2 : n < 10000) (hm : maySp a n = true) (hl : (SpV.new a n).loadU l = some S) (hv : Zs w v l) :
    Calls Try.prog 7 #[.int .i64 (a : Nat), .int .i64 (n : Nat), v] w fun e w' => ∃ s g, e = .returned (.tuple #[.pointer (some ⟨s, 0, none⟩), .int .i64 0]) ∧ Sq w w' s g S := by
  have h := spload_any (a : Int) (n : Int) v l w ⟨by omega, by omega⟩ ⟨by omega, by omega⟩ hv
  unfold LoadTo at h
  simp only [hm, if_true, Int.toNat_natCast, hl] at h
  exact h.mono fun e w' ⟨v, h1, s, g, h2, h3, h4, h5, h6⟩ => ⟨s, g, by rw [h1, h2], h3, h6, h4, h5⟩
theorem spload_bad (a n : Nat) (v : Value) (l : List Int) (w : World) (h1 : a < 10000) (h2 : n < 10000) (hm : maySp a n = true) (hl : (SpV.new a n).loadU l = none) (hv : Zs w v l) :
    Calls Try.prog 7 #[.int .i64 (a : Nat), .int .i64 (n : Nat), v] w fun e w' => e = .returned (.tuple #[.pointer none, .int .i64 4]) ∧ Frm (fun _ => False) w w' := by
  have h := spload_any (a : Int) (n : Int) v l w ⟨by omega, by omega⟩ ⟨by omega, by omega⟩ hv
  unfold LoadTo at h
  simp only [hm, if_true, Int.toNat_natCast, hl] at h
  exact h
theorem spload_no (a n : Nat) (v : Value) (l : List Int) (w : World) (h1 : a < 10000) (h2 : n < 10000) (hm : maySp a n = false) (hv : Zs w v l) :
    Calls Try.prog 7 #[.int .i64 (a : Nat), .int .i64 (n : Nat), v] w fun e w' => e = .returned (.tuple #[.pointer none, .int .i64 2]) ∧ Frm (fun _ => False) w w' := by
  have h := spload_any (a : Int) (n : Int) v l w ⟨by omega, by omega⟩ ⟨by omega, by omega⟩ hv
  unfold LoadTo at h
  simp only [hm, Bool.false_eq_true, if_false] at h
  exact h.mono fun e w' ⟨h1, h2⟩ => ⟨h1, by rw [← h2]; exact Frm.refl _ _⟩
theorem spnew_none (a n : Int) (w : World) (ha : Z64 a) (hn : Z64 n) (h : maySp a n = false) : Calls Try.prog 9 #[.int .i64 a, .int .i64 n] w fun e w' => e = .returned (.pointer none) ∧ w = w' := by
  have := spnew_any a n w ha hn
  unfold NewSpTo at this
  simp only [h, Bool.false_eq_true, if_false] at this
  exact this
structure KnW (w wy : World) (z : Nat) (W : World) : Prop where
  res : Blk W w.heap.size 4 #[.bool false]
  zero : NoSp (.pointer (some ⟨z, 0, none⟩)) W
  frm : Frm (fun _ => False) w W
theorem NoSp.turned {z : Nat} {W W' : World} {row : Option Nat} (h : NoSp (.pointer (some ⟨z, 0, none⟩)) W) (hg : W.grownBy W' row) (hr : ∀ r, row = some r → ∃ o : Obj, W.heap[r]? = some o ∧ o.isCells = false) : NoSp (.pointer (some ⟨z, 0, none⟩)) W' := by
  rcases h with h | ⟨b, h, c⟩
  · cases h
  · cases h
    refine .inr ⟨z, rfl, ?_⟩
    obtain ⟨o, ho, hc⟩ := cell_isCells c
    refine (World.cell?_of_block (a := ⟨z, 0, none⟩) (hg.block z (Array.getElem?_eq_some_iff.1 ho).1 fun e => ?_)).trans c
    obtain ⟨o', ho', hc'⟩ := hr z e.symm
    rw [ho] at ho'
    cases ho'
    rw [hc] at hc'
    cases hc'
theorem KnW.own (w wy : World) (z B : Nat) (hB : w.heap.size ≤ B) : OwnFrom B (fun (_ : List (Fin 0)) => KnW w wy z) := fun _ _ _ _ h hg hr => by
  have hr2 := fun r e => (hr r e).2
  exact ⟨h.res.turned hg hr2, h.zero.turned hg hr2, h.frm.turned hB hg hr⟩
set_option maxRecDepth 100000 in
set_option maxHeartbeats 16000000 in
theorem spaceKnown_any (w : World) : Calls Try.prog 4 #[] w fun e w' => e = .returned (.bool true) ∧ Frm (fun _ => False) w w' := by
  have HAW := Lib.hid (fun W => awake15_any W)
  have g0 : Frm (fun _ => False) w (w.alloc (.cells #[.bool false] 4)) := (Frm.refl _ w).alloc _
  have br := Blk.alloc w 4 #[.bool false]
  obtain ⟨w0, hw0⟩ : ∃ w0, w.alloc (.cells #[.bool false] 4) = w0 := ⟨_, rfl⟩
  rw [hw0] at g0 br
  have HN := Lib.hid (spnew_yes 100 200 w0 (by kernel_rfl) (by decide) (by decide))
  have HG := Lib.hid (And.intro g0 br)
  clear g0 br
  refine (callsIn_wide (n := 9)).1 ?_
  refine callsIn_of_wp_marks Try.func4 rfl trivial ?_ rfl
  simp only [Try.ntmps4, List.size_toArray, List.length_nil, Nat.reduceSub, Array.replicate_succ, Array.replicate_zero, List.push_toArray, List.append_toArray, List.nil_append, List.cons_append]
  refine wpIn_wide.2 ?_
  refine Code.wp_mono calmR_le ?_
  go_wp2_with fail
  clear hw0
  refine HN.out.mono ?_
  rintro e w1 ⟨s, g, rfl, h1⟩
  have H1 := Lib.hid (show Sq w0 w1 s g a0 from h1)
  clear h1 HN
  go_wp2_with fail
  refine (HAW.out _).mono ?_
  rintro e w2 ⟨rfl, g2⟩
  have H2 := Lib.hid (H1.out.keepF g2)
  clear g2 H1
  have hx := takes_yes s g 100 a0 a1 w2 H2.out.sp (by kernel_rfl)
  have HX := Lib.hid hx
  clear hx
  go_wp2_with fail
  refine HX.out.mono ?_
  rintro e w3 ⟨rfl, h3, g3⟩
  have H3 := Lib.hid (H2.out.step h3 g3)
  clear h3 g3 H2 HX
  have hx := takes_yes s g 101 a1 a2 w3 H3.out.sp (by kernel_rfl)
  have HX := Lib.hid hx
  clear hx
  go_wp2_with fail
  refine HX.out.mono ?_
  rintro e w4 ⟨rfl, h4, g4⟩
  have H4 := Lib.hid (H3.out.step h4 g4)
  clear h4 g4 H3 HX
  have hx := spuse_any s g a2 103 w4 H4.out.sp
  rw [show a2.use 103 = (a3, 0) by kernel_rfl] at hx; unfold SpTo at hx
  have HX := Lib.hid hx
  clear hx
  go_wp2_with fail
  refine HX.out.mono ?_
  rintro e w5 ⟨rfl, h5, g5⟩
  have H5 := Lib.hid (H4.out.step h5 g5)
  clear h5 g5 H4 HX
  have hx := spuse_any s g a3 103 w5 H5.out.sp
  rw [show a3.use 103 = (a3, 6) by kernel_rfl] at hx; unfold SpTo at hx
  have HX := Lib.hid hx
  clear hx
  go_wp2_with fail
  refine HX.out.mono ?_
  rintro e w6 ⟨rfl, h6, g6⟩
  have H6 := Lib.hid (H5.out.step h6 g6)
  clear h6 g6 H5 HX
  have hx := spgive_any s g a3 101 w6 H6.out.sp
  rw [show a3.give 101 = (b4, 0) by kernel_rfl] at hx; unfold SpTo at hx
  have HX := Lib.hid hx
  clear hx
  go_wp2_with fail
  refine HX.out.mono ?_
  rintro e w7 ⟨rfl, h7, g7⟩
  have H7 := Lib.hid (H6.out.step h7 g7)
  clear h7 g7 H6 HX
  have hx := spgive_any s g b4 101 w7 H7.out.sp
  rw [show b4.give 101 = (b4, 5) by kernel_rfl] at hx; unfold SpTo at hx
  have HX := Lib.hid hx
  clear hx
  go_wp2_with fail
  refine HX.out.mono ?_
  rintro e w8 ⟨rfl, h8, g8⟩
  have H8 := Lib.hid (H7.out.step h8 g8)
  clear h8 g8 H7 HX
  have hx := spgive_any s g b4 99 w8 H8.out.sp
  rw [show b4.give 99 = (b4, 2) by kernel_rfl] at hx; unfold SpTo at hx
  have HX := Lib.hid hx
  clear hx
  go_wp2_with fail
  refine HX.out.mono ?_
  rintro e w9 ⟨rfl, h9, g9⟩
  have H9 := Lib.hid (H8.out.step h9 g9)
  clear h9 g9 H8 HX
  have hx := spuse_any s g b4 200 w9 H9.out.sp
  rw [show b4.use 200 = (b4, 2) by kernel_rfl] at hx; unfold SpTo at hx
  have HX := Lib.hid hx
  clear hx
  go_wp2_with fail
  refine HX.out.mono ?_
  rintro e w10 ⟨rfl, h10, g10⟩
  have H10 := Lib.hid (H9.out.step h10 g10)
  clear h10 g10 H9 HX
  have hx := takes_yes s g 101 b4 b5 w10 H10.out.sp (by kernel_rfl)
  have HX := Lib.hid hx
  clear hx
  go_wp2_with fail
  refine HX.out.mono ?_
  rintro e w11 ⟨rfl, h11, g11⟩
  have H11 := Lib.hid (H10.out.step h11 g11)
  clear h11 g11 H10 HX
  have hx := takes_yes s g 102 b5 b6 w11 H11.out.sp (by kernel_rfl)
  have HX := Lib.hid hx
  clear hx
  go_wp2_with fail
  refine HX.out.mono ?_
  rintro e w12 ⟨rfl, h12, g12⟩
  have H12 := Lib.hid (H11.out.step h12 g12)
  clear h12 g12 H11 HX
  have hx := takes_yes s g 104 b6 b7 w12 H12.out.sp (by kernel_rfl)
  have HX := Lib.hid hx
  clear hx
  go_wp2_with fail
  refine HX.out.mono ?_
  rintro e w13 ⟨rfl, h13, g13⟩
  have H13 := Lib.hid (H12.out.step h13 g13)
  clear h13 g13 H12 HX
  have F13 := Lib.hid H13.out.frm
  clear H13
  have ga : Frm (fun _ => False) w13 (w13.alloc (.cells #[.int .i64 5, .int .i64 7] 3)) := (Frm.refl _ _).alloc _
  have hx := spload_yes 0 256 _ [5, 7] c2S _ (by decide) (by decide) (by kernel_rfl) (by kernel_rfl) (Zs.two w13 5 7)
  have HX := Lib.hid hx
  have GA := Lib.hid ga
  clear hx ga
  go_wp2_with fail
  refine HX.out.mono ?_
  rintro e w20 ⟨t, q, rfl, h20⟩
  have H20 := Lib.hid (show Sq w0 w20 t q c2S from ⟨h20.sp, (F13.out.trans GA.out).trans h20.frm, by have := (F13.out.trans GA.out).size; have := h20.os; omega, by have := (F13.out.trans GA.out).size; have := h20.og; omega⟩)
  clear h20 HX GA F13
  have ga : Frm (fun _ => False) w20 (w20.alloc (.cells #[.int .i64 5, .int .i64 5] 3)) := (Frm.refl _ _).alloc _
  have hx := spload_bad 0 256 _ [5, 5] _ (by decide) (by decide) (by kernel_rfl) (by kernel_rfl) (Zs.two w20 5 5)
  have HX := Lib.hid hx
  have GA := Lib.hid ga
  clear hx ga
  go_wp2_with fail
  refine HX.out.mono ?_
  rintro e w21 ⟨rfl, g21⟩
  have H21 := Lib.hid (H20.out.keepF (GA.out.trans g21))
  clear g21 HX GA H20
  have ga : Frm (fun _ => False) w21 (w21.alloc (.cells #[.int .i64 256] 3)) := (Frm.refl _ _).alloc _
  have hx := spload_bad 0 256 _ [256] _ (by decide) (by decide) (by kernel_rfl) (by kernel_rfl) (Zs.one1 w21 256)
  have HX := Lib.hid hx
  have GA := Lib.hid ga
  clear hx ga
  go_wp2_with fail
  refine HX.out.mono ?_
  rintro e w22 ⟨rfl, g22⟩
  have H22 := Lib.hid (H21.out.keepF (GA.out.trans g22))
  clear g22 HX GA H21
  have hx := spload_no 5 5 _ [] w22 (by decide) (by decide) (by kernel_rfl) (Zs.none0 w22)
  have HX := Lib.hid hx
  clear hx
  go_wp2_with fail
  refine HX.out.mono ?_
  rintro e w23 ⟨rfl, g23⟩
  have H23 := Lib.hid (H22.out.keepF g23)
  clear g23 HX H22
  have hx := spcount_any t q c2S w23 H23.out.sp
  rw [show c2S.all.length = 254 by kernel_rfl] at hx
  have HX := Lib.hid hx
  clear hx
  go_wp2_with fail
  refine HX.out.mono ?_
  rintro e w24 ⟨rfl, g24⟩
  have H24 := Lib.hid (H23.out.keepF g24)
  clear g24 HX H23
  have hx := spfree_any t q c2S 5 w24 H24.out.sp
  rw [show c2S.isF 5 = false by kernel_rfl] at hx
  have HX := Lib.hid hx
  clear hx
  go_wp2_with fail
  refine HX.out.mono ?_
  rintro e wz ⟨rfl, rfl⟩
  clear HX
  have hx := spfree_any t q c2S 6 w24 H24.out.sp
  rw [show c2S.isF 6 = true by kernel_rfl] at hx
  have HX := Lib.hid hx
  clear hx
  go_wp2_with fail
  refine HX.out.mono ?_
  rintro e wz ⟨rfl, rfl⟩
  clear HX
  have hx := spfree_any t q c2S (-1) w24 H24.out.sp
  rw [show c2S.isF (-1) = false by kernel_rfl] at hx
  have HX := Lib.hid hx
  clear hx
  go_wp2_with fail
  refine HX.out.mono ?_
  rintro e wz ⟨rfl, rfl⟩
  clear HX
  have hx := spfree_any t q c2S 256 w24 H24.out.sp
  rw [show c2S.isF 256 = false by kernel_rfl] at hx
  have HX := Lib.hid hx
  clear hx
  go_wp2_with fail
  refine HX.out.mono ?_
  rintro e wz ⟨rfl, rfl⟩
  clear HX
  have hx := spnew_none 0 2049 w24 ⟨by decide, by decide⟩ ⟨by decide, by decide⟩ (by kernel_rfl)
  have HX := Lib.hid hx
  clear hx
  go_wp2_with fail
  refine HX.out.mono ?_
  rintro e wz ⟨rfl, rfl⟩
  clear HX
  have hx := spnew_none (-1) 5 w24 ⟨by decide, by decide⟩ ⟨by decide, by decide⟩ (by kernel_rfl)
  have HX := Lib.hid hx
  clear hx
  go_wp2_with fail
  refine HX.out.mono ?_
  rintro e wz ⟨rfl, rfl⟩
  clear HX
  have hx := spnew_yes 0 2048 w24 (by kernel_rfl) (by decide) (by decide)
  have HX := Lib.hid hx
  clear hx
  go_wp2_with fail
  refine HX.out.mono ?_
  rintro e w25 ⟨s2, q2, rfl, h25⟩
  have F25 := Lib.hid (H24.out.frm.trans h25.frm)
  have hx := spnew_yes 0 1 w25 (by kernel_rfl) (by decide) (by decide)
  have HX := Lib.hid hx
  clear hx h25 H24
  go_wp2_with fail
  refine HX.out.mono ?_
  rintro e w26 ⟨s3, q3, rfl, h26⟩
  have H26 := Lib.hid (show Sq w0 w26 s3 q3 d0S from ⟨h26.sp, F25.out.trans h26.frm, by have := F25.out.size; have := h26.os; omega, by have := F25.out.size; have := h26.og; omega⟩)
  have hx := takes_yes s3 q3 0 d0S d1S w26 H26.out.sp (by kernel_rfl)
  have HX := Lib.hid hx
  clear hx h26 F25
  go_wp2_with fail
  refine HX.out.mono ?_
  rintro e w27 ⟨rfl, h27, g27⟩
  have H27 := Lib.hid (H26.out.step h27 g27)
  have hx := sptake_any s3 q3 d1S w27 H27.out.sp
  rw [show d1S.take = (d1S, 0, 7) by kernel_rfl] at hx
  unfold TakeTo at hx
  have HX := Lib.hid hx
  clear hx h27 g27 H26
  go_wp2_with fail
  refine HX.out.mono ?_
  rintro e w28 ⟨rfl, h28, g28⟩
  have F28 := Lib.hid (H27.out.step h28 g28).frm
  clear h28 g28 H27 HX
  have gz : Frm (fun _ => False) w28 (w28.alloc (.cells #[.pointer none, .int .i64 0, .int .i64 0, .slice none 0 0] 55)) := (Frm.refl _ _).alloc _
  have bz := Blk.alloc w28 55 #[.pointer none, .int .i64 0, .int .i64 0, .slice none 0 0]
  obtain ⟨w29, hw29⟩ : ∃ w29, w28.alloc (.cells #[.pointer none, .int .i64 0, .int .i64 0, .slice none 0 0] 55) = w29 := ⟨_, rfl⟩
  obtain ⟨z, hz⟩ : ∃ z, w28.heap.size = z := ⟨_, rfl⟩
  rw [hw29] at gz
  rw [hw29, hz] at bz
  have hnz : NoSp (.pointer (some ⟨z, 0, none⟩)) w29 := .inr ⟨z, rfl, bz.cell 0 rfl⟩
  have HZ := Lib.hid (And.intro hnz (F28.out.trans gz))
  have hx := sptake_no (some ⟨z, 0, none⟩) w29 hnz
  have HX := Lib.hid hx
  have hsn := spseq_neq
  clear hx gz bz hnz F28
  go_wp2_with fail
  clear hw29 hz
  refine HX.out.mono ?_
  rintro e w30 ⟨rfl, g30⟩
  have hI : KnW w w30 z w30 := ⟨HG.out.2.keep (HZ.out.2.trans g30) (fun h => h), HZ.out.1.keepF g30, HG.out.1.trans (HZ.out.2.trans g30)⟩
  have HI := Lib.hid hI
  clear hI g30 HX HZ HG
  go_wp2_with fail
  refine (spall_any none _).mono ?_
  rintro e w31 ⟨rfl, rfl⟩
  go_wp2_with fail
  have gy : Frm (fun _ => False) w30 (w30.alloc (.cells #[.pointer none] 26)) := (Frm.refl _ _).alloc _
  have hBn := Blk.alloc w30 26 #[.pointer none]
  have hI0 : KnW w w30 z (w30.alloc (.cells #[.pointer none] 26)) := ⟨HI.out.res.keep gy (fun h => h), HI.out.zero.keepF gy, HI.out.frm.trans gy⟩
  obtain ⟨wy, hwy⟩ : ∃ wy, w30.alloc (.cells #[.pointer none] 26) = wy := ⟨_, rfl⟩
  obtain ⟨Bn, hBq⟩ : ∃ Bn, w30.heap.size = Bn := ⟨_, rfl⟩
  rw [hwy] at hI0 ⊢
  rw [hwy, hBq] at hBn
  rw [hBq]
  have hwy2 := hI0.frm.size
  clear gy hwy hBq HI
  refine (wpIn_wide (n := 9)).1 ?_
  refine wpIn_rangeFunc_ownF rfl (by omega) (gf := 33) (lb := #[.pointer (some ⟨Bn, 0, none⟩)]) rfl trivial (enters_of Try.func33 (by kernel_rfl) rfl)
    (spnone_stops (α := Fin 0) (fun x => x.elim0) (fun _ => False) none Bn wy hBn (.inl rfl)) keptX.trans (keptX.put (fun k hk => hk.elim)) (Below.refl _ _) (fun x => x.elim0)
    (fun _ => KnW w w30 z) (fun _ _ _ => False) (KnW.own w w30 z _ hwy2) (fun _ _ _ _ _ h _ _ => h) hI0 (fun x => x.elim0) ?assign ?body ?done ?stop
  case assign => exact fun l0 x => x.elim0
  case body => exact fun l0 pre x => x.elim0
  case stop =>
    rintro D c pre W _ _ h _
    exact h.elim
  case done =>
    rintro D xs W hD _ hv hK
    have hDlt := (Array.getElem?_eq_some_iff.1 hK).1
    have hD2 : w.heap.size ≤ D := by omega
    have HV := Lib.hid hv
    have HK := Lib.hid hK
    have hx := spuse_no (.pointer none) 0 W (.inl rfl)
    have HX := Lib.hid hx
    clear hI0 hBn hsn hv hK hx
    go_wp2_with fail
    refine HX.out.mono ?_
    rintro e w1 ⟨rfl, rfl⟩
    have hx := spgive_no (.pointer none) 0 W (.inl rfl)
    have HX := Lib.hid hx
    clear hx
    go_wp2_with fail
    refine HX.out.mono ?_
    rintro e w1 ⟨rfl, rfl⟩
    have hx := spfree_no (.pointer (some ⟨z, 0, none⟩)) 0 W HV.out.zero
    have HX := Lib.hid hx
    clear hx
    go_wp2_with fail
    refine HX.out.mono ?_
    rintro e w1 ⟨rfl, rfl⟩
    have hx := spcount_no none W (.inl rfl)
    have HX := Lib.hid hx
    clear hx
    go_wp2_with fail
    refine HX.out.mono ?_
    rintro e w40 ⟨rfl, g40⟩
    have G40 := Lib.hid g40
    have hx := spcopy_no (.pointer (some ⟨z, 0, none⟩)) w40 (HV.out.zero.keepF g40)
    have HX := Lib.hid hx
    clear hx g40
    go_wp2_with fail
    refine HX.out.mono ?_
    rintro e w1 ⟨rfl, rfl⟩
    clear HX
    go_wp2_with fail
    refine (HAW.out _).mono ?_
    rintro e w41 ⟨rfl, g41⟩
    have g := G40.out.trans g41
    have hb4 := HV.out.res.keep g (fun h => h)
    have c4 := hb4.cell 0 rfl
    have r4 := hb4.free 0
    have hK4 := (g.block D hDlt (fun h => h)).trans HK.out
    have hf4 := HV.out.frm.trans g
    have HE := Lib.hid (And.intro hb4 (And.intro hK4 hf4))
    clear g g41 G40 hb4 hK4 hf4
    go_wp2_with fail
    obtain ⟨hb4, hK4, hf4⟩ := HE.out
    have hK' := (KeepsOthers.setCell w41 ⟨w.heap.size, 0, none⟩ (.bool true)).same D _ hK4 rfl
    refine calmR_ret ?_
    refine ⟨by simp, .inl ⟨_, _, rfl, run_takeDeferred hK', ?_⟩⟩
    have hrow : ∀ r, some D = some r → ∃ o : Obj, (w41.setCell ⟨w.heap.size, 0, none⟩ (.bool true)).heap[r]? = some o ∧ o.isCells = false := fun r e => by cases e; exact ⟨_, hK', rfl⟩
    have hg := grownBy_putObj' (w41.setCell ⟨w.heap.size, 0, none⟩ (.bool true)) D (.deferred none)
    have hb5 := (hb4.set 0 (.bool true)).turned hg hrow
    have hc5 := hb5.cell 0 rfl
    refine ⟨.bool true, ?_, rfl, (hf4.setCell (p := ⟨w.heap.size, 0, none⟩) (fun h => absurd h (by simp)) _).grown hg (fun k hk e => by cases e; omega)⟩
    simp [results, Try.f4, go_sem, hc5]
end Go.Proofs.Ytdhnidmeeocajaa
