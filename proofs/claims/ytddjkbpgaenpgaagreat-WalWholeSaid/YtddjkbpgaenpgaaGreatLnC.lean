/- What fall, Blow, request, Write, Flush leave of a line. No condition. -/
import Derived.Test.YtddjkbpgaenpgaaGreatLnA
import Derived.Deep.DeepCutAuto
section
namespace Go.Proofs.YtddjkbpgaenpgaaGreat
open Go.RowKit

/-- The blocks of a line that change. -/
def LnX (l f x : Nat) (k : Nat) : Prop := k = l ∨ k = f ∨ k = x
theorem LnM.fallTo {w w1 : World} {l b f x : Nat} {L : LV} (h : LnM w l b f x L) (hd : DevM w1 b f x (L.D.crash L.cs)) (hf : Frm (fun k => k = f ∨ k = x) w w1) : LnM ((w1.setCell ⟨l, 5, none⟩ (.bool true)).setCell ⟨l, 3, none⟩ (.slice none 0 0)) l b f x L.fall ∧ Frm (LnX l f x) w ((w1.setCell ⟨l, 5, none⟩ (.bool true)).setCell ⟨l, 3, none⟩ (.slice none 0 0)) :=
  ⟨(h.turn hd hf).cutDown, ((hf.mono fun _ _ h => .inr h).setCell (fun _ => .inl rfl) _).setCell (fun _ => .inl rfl) _⟩
set_option maxRecDepth 100000 in
set_option maxHeartbeats 2000000 in
theorem lfall_any (l b f x : Nat) (L : LV) (w : World) (h : LnM w l b f x L) (hd : L.down = false) :
    Calls Tryz.prog 70 #[.pointer (some ⟨l, 0, none⟩), .func (.func 71) #[.pointer (some ⟨b, 0, none⟩)] #[]] w fun e w' => e = .returned (.tuple #[]) ∧ LnM w' l b f x L.fall ∧ Frm (LnX l f x) w w' := by
  obtain ⟨cv, hc⟩ := h
  have c3 := hc.blk.cell 3 rfl
  have HC := Lib.hid (crash_any b f x L.D cv L.cs w hc.dev (hc.zs hd) hc.ok.cs hc.ok.few ((hc.za hd).imp id fun q g hg => (q g hg).1))
  have H : LnM w l b f x L := ⟨cv, hc⟩
  have H := Lib.hid H
  clear hc hd
  go_enter Tryz.func70, Tryz.ntmps70
  go_wp2_with fail
  refine HC.out.mono ?_
  rintro e w1 ⟨rfl, hd1, g1⟩
  have HF := Lib.hid (H.out.fallTo hd1 g1)
  have h1 := H.out.turn hd1 g1
  have e5 := h1.down
  have f5 := h1.free 5
  have f3 := h1.free 3
  obtain ⟨cv1, hc1⟩ := h1
  have e3 := hc1.blk.cell 3 rfl
  clear hc1 hd1 g1 HC
  go_wp2_with fail
  go_end0
  exact ⟨rfl, HF.out⟩
set_option maxRecDepth 100000 in
set_option maxHeartbeats 2000000 in
theorem lblow_any (l b f x : Nat) (L : LV) (w : World) (h : LnM w l b f x L) :
    Calls Tryz.prog 26 #[.pointer (some ⟨l, 0, none⟩)] w fun e w' => e = .returned (.tuple #[]) ∧ LnM w' l b f x L.blow ∧ Frm (LnX l f x) w w' := by
  have HD := ldown_any l b f x L w h
  have c1 := h.d
  cases hd : L.down with
  | true =>
    have HB : LnM w l b f x L.blow := by unfold LV.blow; rw [if_pos hd]; exact h
    rw [hd] at HD
    have HD := Lib.hid HD
    have HB := Lib.hid HB
    clear hd h
    go_enter Tryz.func26, Tryz.ntmps26
    go_wp2_with fail
    refine HD.out.mono ?_
    rintro e w1 ⟨rfl, rfl⟩
    go_wp2_with fail
    go_end0
    exact ⟨rfl, HB.out, Frm.refl _ _⟩
  | false =>
    have HB := lfall_any l b f x L w h hd
    have eb : L.blow = L.fall := by unfold LV.blow; rw [hd]; rfl
    rw [eb]
    rw [hd] at HD
    have HD := Lib.hid HD
    have HB := Lib.hid HB
    clear hd h eb
    go_enter Tryz.func26, Tryz.ntmps26
    go_wp2_with fail
    refine HD.out.mono ?_
    rintro e w1 ⟨rfl, rfl⟩
    go_wp2_with fail
    refine HB.out.mono ?_
    rintro e w1 ⟨rfl, h1, g1⟩
    go_wp2_with fail
    go_end0
    exact ⟨rfl, h1, g1⟩
/-- What an act does to the device, as a function value. -/
def ActTo (l b f x : Nat) (L : LV) (D' : DV) (c : Nat) (F : FuncId) (args : Array Value) (w : World) : Prop :=
  ∀ W, Frm (LnX l f x) w W → LnM W l b f x L.count → Calls Tryz.prog F args W fun e W' => e = .returned (.int .i64 (c : Nat)) ∧ DevM W' b f x D' ∧ Frm (fun k => k = f ∨ k = x) W W'
set_option maxRecDepth 100000 in
set_option maxHeartbeats 4000000 in
theorem lreq_any (l b f x : Nat) (L : LV) (D' : DV) (c : Nat) (F : FuncId) (args : Array Value) (w : World) (h : LnM w l b f x L) (ha : L.acts ≤ 1000000) (hE : ∀ W, (callFunc F args).run Tryz.prog W = .ok (.enter F args) W) (hA : ActTo l b f x L D' c F args w) :
    Calls Tryz.prog 60 #[.pointer (some ⟨l, 0, none⟩), .func (.func F) #[] args] w fun e w' => e = .returned (.int .i64 (L.code c : Nat)) ∧ LnM w' l b f x (L.act D') ∧ Frm (LnX l f x) w w' := by
  have HC := lcheck_any l b f x L w h
  cases hd : L.down with
  | true =>
    have eb : L.act D' = L := by unfold LV.act; rw [if_pos hd]
    have ec : L.code c = 8 := by unfold LV.code; rw [if_pos (.inl hd)]
    rw [hd] at HC
    rw [eb, ec]
    have HC := Lib.hid HC
    have H := Lib.hid h
    clear hd h eb ec hA hE
    go_enter Tryz.func60, Tryz.ntmps60
    go_wp2_with fail
    refine HC.out.mono ?_
    rintro e w1 ⟨rfl, rfl⟩
    go_wp2_with fail
    go_ret
    exact ⟨rfl, H.out, Frm.refl _ _⟩
  | false =>
    have h1 := h.count
    rw [show (((L.acts + 1 : Nat) : Int)) = (L.acts : Int) + 1 from by omega] at h1
    have c4 := h.acts
    have f4 := h.free 4
    have c2 := h.cut
    have c1 := h.d
    have g1 : Frm (LnX l f x) w (w.setCell ⟨l, 4, none⟩ (.int .i64 ((L.acts : Int) + 1))) := (Frm.refl (LnX l f x) w).setCell (fun _ => .inl rfl) _
    have HA := Lib.hid (hA _ g1 h1)
    have hdc : L.count.down = false := hd
    rw [hd] at HC
    have HC := Lib.hid HC
    have HL := Lib.hid (llate_any l b f x L.count _ h1 hdc)
    have H1 := Lib.hid (And.intro h1 (And.intro g1 hdc))
    have HD := Lib.hid hd
    clear h h1 hA g1 hd hdc
    by_cases heq : (L.acts : Int) = L.cut
    · have ec : L.code c = 8 := by unfold LV.code; rw [if_pos (.inr heq)]
      rw [ec]
      have hb : ((L.acts : Int) == L.cut) = true := beq_iff_eq.2 heq
      have hb2 : ((L.acts : Int) != L.cut) = false := by rw [bne, hb]; rfl
      have HE := Lib.hid heq
      clear heq ec
      cases ho : L.odd with
      | false =>
        have eb : L.act D' = L.count.fall := by unfold LV.act; rw [if_neg (by rw [HD.out]; exact Bool.false_ne_true), if_neg (not_not_intro HE.out), if_neg (by rw [ho]; exact Bool.false_ne_true)]
        have ho2 : L.count.odd = false := ho
        rw [ho2] at HL
        have HF := Lib.hid (lfall_any l b f x L.count _ H1.out.1 H1.out.2.2)
        have EB := Lib.hid eb
        clear ho ho2 eb HD HE
        go_enter Tryz.func60, Tryz.ntmps60
        go_wp2_with fail
        refine HC.out.mono ?_
        rintro e w1 ⟨rfl, rfl⟩
        go_wp2_with fail
        refine HL.out.mono ?_
        rintro e w1 ⟨rfl, rfl⟩
        go_wp2_with fail
        refine HF.out.mono ?_
        rintro e w2 ⟨rfl, h2, g2⟩
        go_wp2_with fail
        go_ret
        exact ⟨rfl, by rw [EB.out]; exact h2, H1.out.2.1.trans g2⟩
      | true =>
        have eb : L.act D' = ({ L.count with D := D' } : LV).fall := by unfold LV.act; rw [if_neg (by rw [HD.out]; exact Bool.false_ne_true), if_neg (not_not_intro HE.out), if_pos ho]
        have ho2 : L.count.odd = true := ho
        rw [ho2] at HL
        have EB := Lib.hid eb
        clear ho ho2 eb HE
        go_enter Tryz.func60, Tryz.ntmps60
        go_wp2_with fail
        refine HC.out.mono ?_
        rintro e w1 ⟨rfl, rfl⟩
        go_wp2_with fail
        refine HL.out.mono ?_
        rintro e w1 ⟨rfl, rfl⟩
        go_wp2_with fail
        refine HA.out.mono ?_
        rintro e w2 ⟨rfl, hd2, gd2⟩
        have h2 := H1.out.1.turn hd2 gd2
        have e1 := h2.d
        have HF := Lib.hid (lfall_any l b f x _ _ h2 H1.out.2.2)
        have G2 := Lib.hid (H1.out.2.1.trans (gd2.mono fun _ _ h => .inr h : Frm (LnX l f x) _ w2))
        clear hd2 gd2 h2
        go_wp2_with fail
        refine HF.out.mono ?_
        rintro e w3 ⟨rfl, h3, g3⟩
        go_wp2_with fail
        go_ret
        exact ⟨rfl, by rw [EB.out]; exact h3, G2.out.trans g3⟩
    · have eb : L.act D' = { L.count with D := D' } := by unfold LV.act; rw [if_neg (by rw [HD.out]; exact Bool.false_ne_true), if_pos heq]
      have ec : L.code c = c := by unfold LV.code; rw [if_neg (by rw [HD.out]; rintro (h | h); exact Bool.false_ne_true h; exact heq h)]
      rw [ec]
      have hb : ((L.acts : Int) == L.cut) = false := beq_eq_false_iff_ne.2 heq
      have hb2 : ((L.acts : Int) != L.cut) = true := by rw [bne, hb]; rfl
      have EB := Lib.hid eb
      clear eb ec heq HD
      go_enter Tryz.func60, Tryz.ntmps60
      go_wp2_with fail
      refine HC.out.mono ?_
      rintro e w1 ⟨rfl, rfl⟩
      go_wp2_with fail
      refine HA.out.mono ?_
      rintro e w2 ⟨rfl, hd2, gd2⟩
      have H2 := Lib.hid (H1.out.1.turn hd2 gd2)
      have G2 := Lib.hid (H1.out.2.1.trans (gd2.mono fun _ _ h => .inr h : Frm (LnX l f x) _ w2))
      clear hd2 gd2
      go_wp2_with fail
      go_ret
      exact ⟨rfl, by rw [EB.out]; exact H2.out, G2.out⟩
end Go.Proofs.YtddjkbpgaenpgaaGreat
end
section
namespace Go.Proofs.YtddjkbpgaenpgaaGreat
open Go.RowKit Go.Shelf

set_option maxRecDepth 100000 in
set_option maxHeartbeats 2000000 in
theorem lwrite1_any (l b f x a0 a1 a2 : Nat) (L : LV) (q : Int) (s : List UInt8) (w : World) (h : LnM w l b f x L) (hq : Z64 q) (hs : s.length ≤ 9223372036854775807)
    (c0 : w.cell? ⟨a0, 0, none⟩ = some (.pointer (some ⟨l, 0, none⟩))) (c1 : w.cell? ⟨a1, 0, none⟩ = some (.int .i64 q)) (c2 : w.cell? ⟨a2, 0, none⟩ = some (.string (bs s))) :
    Calls Tryz.prog 61 #[.pointer (some ⟨a0, 0, none⟩), .pointer (some ⟨a1, 0, none⟩), .pointer (some ⟨a2, 0, none⟩)] w fun e w' => e = .returned (.int .i64 (L.D.writeE q s : Nat)) ∧ DevM w' b f x (L.D.writeTo q s) ∧ Frm (fun k => k = f ∨ k = x) w w' := by
  have cd := h.d
  have HW : Hid (∀ W, Frm (fun _ => False) w W → Calls Tryz.prog 35 #[.pointer (some ⟨b, 0, none⟩), .int .i64 q, .string (bs s)] W fun e w' => e = .returned (.int .i64 (L.D.writeE q s : Nat)) ∧ DevM w' b f x (L.D.writeTo q s) ∧ Frm (· = x) W w') := Lib.hid fun W g => write_any b f x L.D q s W (h.dev.keepF g) hq hs
  clear h hq hs
  go_enter Tryz.func61, Tryz.ntmps61
  go_upto_region 1 with fail
  refine wp_region_tail 6 1 (fun w' => w'.cell? ⟨a0, 0, none⟩ = some (.pointer (some ⟨l, 0, none⟩)) ∧ w'.cell? ⟨a1, 0, none⟩ = some (.int .i64 q) ∧ w'.cell? ⟨a2, 0, none⟩ = some (.string (bs s)) ∧ w'.cell? ⟨l, 1, none⟩ = some (.pointer (some ⟨b, 0, none⟩)) ∧ Frm (fun _ => False) w w') (by kernel_rfl) rfl rfl (by kernel_rfl) (by kernel_rfl) (by kernel_rfl) (by kernel_rfl) (⟨c0, c1, c2, cd, (Frm.refl _ w).drew⟩) ?_
  repeat' first
    | (refine CanonL.skip (by rfl) ?_; (try simp only [Act.put, List.setIfInBounds_toArray, List.set_cons_zero, List.set_cons_succ]))
    | (refine CanonL.val (v := ?_) (by rfl) ?_ ?_; rotate_left 1; (focus (intro w hSw; (try dsimp only at hSw); go_simp; (try (with_reducible rfl)); done)); (try simp only [Act.put, List.setIfInBounds_toArray, List.set_cons_zero, List.set_cons_succ]))
  refine CanonL.done ?_
  intro w9 hS9
  obtain ⟨_, _, _, _, g9⟩ := hS9
  have HW9 := Lib.hid (HW.out w9 g9)
  have G9 := Lib.hid g9
  clear g9 HW
  refine wpTail.cons rfl rfl (fun K hK => ?_)
  unfold Oper.wp execOp
  go_simp
  with_reducible refine HW9.out.mono ?_
  rintro e w1 ⟨rfl, hd1, g1⟩
  refine hK _ _ ?_
  clear hK K
  try simp only [Act.put, List.setIfInBounds_toArray, List.set_cons_zero, List.set_cons_succ]
  refine wpTail.cons rfl rfl (fun K hK => ?_)
  unfold Oper.wp execOp
  go_simp
  refine hK _ _ ?_
  clear hK K
  try simp only [Act.put, List.setIfInBounds_toArray, List.set_cons_zero, List.set_cons_succ]
  refine wpTail.done ?_
  go_wp2_with fail
  go_ret
  exact ⟨rfl, hd1, (G9.out.mono fun _ _ h => h.elim).trans (g1.mono fun _ _ h => .inr h)⟩
set_option maxRecDepth 100000 in
set_option maxHeartbeats 2000000 in
theorem lflush1_any (l b f x a0 : Nat) (L : LV) (w : World) (h : LnM w l b f x L) (c0 : w.cell? ⟨a0, 0, none⟩ = some (.pointer (some ⟨l, 0, none⟩))) :
    Calls Tryz.prog 106 #[.pointer (some ⟨a0, 0, none⟩)] w fun e w' => e = .returned (.int .i64 (0 : Nat)) ∧ DevM w' b f x L.D.flush ∧ Frm (fun k => k = f ∨ k = x) w w' := by
  have cd := h.d
  have HW := Lib.hid (flush_any b f x L.D w h.dev)
  clear h
  go_enter Tryz.func106, Tryz.ntmps106
  go_wp2_with fail
  refine HW.out.mono ?_
  rintro e w1 ⟨rfl, hd1, g1⟩
  go_wp2_with fail
  go_ret
  exact ⟨rfl, hd1, g1⟩
theorem LnM.actTo_low {w w1 : World} {l b f x : Nat} {L : LV} (h : LnM w l b f x L) (g1 : Frm (fun _ => False) w w1) {W : World} (g : Frm (LnX l f x) w1 W) (k : Nat) (hk : w.heap.size ≤ k) (hk1 : k < w1.heap.size) (o : Nat) : W.cell? ⟨k, o, none⟩ = w1.cell? ⟨k, o, none⟩ :=
  World.cell?_of_block (a := ⟨k, o, none⟩) (g.block k hk1 (by have := h.lt; have := g1.size; unfold LnX; omega))
set_option maxRecDepth 100000 in
set_option maxHeartbeats 4000000 in
theorem lwrite_any (l b f x : Nat) (L : LV) (q : Int) (s : List UInt8) (w : World) (h : LnM w l b f x L) (ha : L.acts ≤ 1000000) (hq : Z64 q) (hs : s.length ≤ 9223372036854775807) :
    Calls Tryz.prog 19 #[.pointer (some ⟨l, 0, none⟩), .int .i64 q, .string (bs s)] w fun e w' => e = .returned (.int .i64 (L.code (L.D.writeE q s) : Nat)) ∧ LnM w' l b f x (L.act (L.D.writeTo q s)) ∧ Frm (LnX l f x) w w' := by
  obtain ⟨w3, hw3⟩ : ∃ w3, ((w.alloc (.cells #[.pointer (some ⟨l, 0, none⟩)] 32)).alloc (.cells #[.int .i64 q] 3)).alloc (.cells #[.string (bs s)] 9) = w3 := ⟨_, rfl⟩
  have g3 : Frm (fun _ => False) w w3 := by
    subst hw3
    exact (((Frm.refl _ w).alloc _).alloc _).alloc _
  have hz3 : w3.heap.size = w.heap.size + 3 := by subst hw3; simp
  have k0 : w3.cell? ⟨w.heap.size, 0, none⟩ = some (.pointer (some ⟨l, 0, none⟩)) := by subst hw3; exact (((Blk.alloc w _ _).old _).old _).cell 0 rfl
  have k1 : w3.cell? ⟨w.heap.size + 1, 0, none⟩ = some (.int .i64 q) := by
    subst hw3
    have := ((Blk.alloc (w.alloc (.cells #[.pointer (some ⟨l, 0, none⟩)] 32)) 3 #[.int .i64 q]).old (.cells #[.string (bs s)] 9)).cell 0 rfl
    simpa using this
  have k2 : w3.cell? ⟨w.heap.size + 1 + 1, 0, none⟩ = some (.string (bs s)) := by
    subst hw3
    have := (Blk.alloc ((w.alloc (.cells #[.pointer (some ⟨l, 0, none⟩)] 32)).alloc (.cells #[.int .i64 q] 3)) 9 #[.string (bs s)]).cell 0 rfl
    simpa using this
  have HR := Lib.hid (lreq_any l b f x L (L.D.writeTo q s) (L.D.writeE q s) 61 #[.pointer (some ⟨w.heap.size, 0, none⟩), .pointer (some ⟨w.heap.size + 1, 0, none⟩), .pointer (some ⟨w.heap.size + 1 + 1, 0, none⟩)] w3 (h.keepF g3) ha (fun W => by go_simp) (fun W g hL => by
    have := lwrite1_any l b f x w.heap.size (w.heap.size + 1) (w.heap.size + 1 + 1) L.count q s W hL hq hs (by rw [h.actTo_low g3 g _ (by omega) (by omega)]; exact k0) (by rw [h.actTo_low g3 g _ (by omega) (by omega)]; exact k1) (by rw [h.actTo_low g3 g _ (by omega) (by omega)]; exact k2)
    exact this))
  have G3 := Lib.hid (And.intro g3 (h.lt))
  clear h g3 k1 k2 hz3 hq hs ha
  go_enter Tryz.func19, Tryz.ntmps19
  go_wp2_with fail
  refine HR.out.mono ?_
  rintro e w4 ⟨rfl, h4, g4⟩
  have G4 := Lib.hid (G3.out.1.mono (fun _ _ h => h.elim : ∀ k, k < w.heap.size → False → LnX l f x k) |>.trans g4)
  clear hw3 g4 HR k0
  go_wp2_with fail
  go_ret
  exact ⟨rfl, h4, G4.out⟩
set_option maxRecDepth 100000 in
set_option maxHeartbeats 4000000 in
theorem lnflush_any (l b f x : Nat) (L : LV) (w : World) (h : LnM w l b f x L) (ha : L.acts ≤ 1000000) :
    Calls Tryz.prog 55 #[.pointer (some ⟨l, 0, none⟩)] w fun e w' => e = .returned (.int .i64 (L.code 0 : Nat)) ∧ LnM w' l b f x (L.act L.D.flush) ∧ Frm (LnX l f x) w w' := by
  obtain ⟨w3, hw3⟩ : ∃ w3, w.alloc (.cells #[.pointer (some ⟨l, 0, none⟩)] 32) = w3 := ⟨_, rfl⟩
  have g3 : Frm (fun _ => False) w w3 := by
    subst hw3
    exact (Frm.refl _ w).alloc _
  have hz3 : w3.heap.size = w.heap.size + 1 := by subst hw3; simp
  have k0 : w3.cell? ⟨w.heap.size, 0, none⟩ = some (.pointer (some ⟨l, 0, none⟩)) := by subst hw3; exact (Blk.alloc w _ _).cell 0 rfl
  have HR := Lib.hid (lreq_any l b f x L L.D.flush 0 106 #[.pointer (some ⟨w.heap.size, 0, none⟩)] w3 (h.keepF g3) ha (fun W => by go_simp) (fun W g hL => by
    have := lflush1_any l b f x w.heap.size L.count W hL (by rw [h.actTo_low g3 g _ (by omega) (by omega)]; exact k0)
    exact this))
  have G3 := Lib.hid (And.intro g3 (h.lt))
  clear h g3 hz3 ha
  go_enter Tryz.func55, Tryz.ntmps55
  go_wp2_with fail
  refine HR.out.mono ?_
  rintro e w4 ⟨rfl, h4, g4⟩
  have G4 := Lib.hid (G3.out.1.mono (fun _ _ h => h.elim : ∀ k, k < w.heap.size → False → LnX l f x k) |>.trans g4)
  clear hw3 g4 HR k0
  go_wp2_with fail
  go_ret
  exact ⟨rfl, h4, G4.out⟩
theorem NoLn.keepF {p : Value} {w w' : World} (h : NoLn p w) (g : Frm (fun _ => False) w w') : NoLn p w' :=
  h.imp id fun ⟨b, e, c⟩ => ⟨b, e, by rw [World.cell?_of_block (a := ⟨b, 0, none⟩) (g.block b (World.block_lt_of_cell? w _ c) (fun h => h))]; exact c⟩
end Go.Proofs.YtddjkbpgaenpgaaGreat
end
