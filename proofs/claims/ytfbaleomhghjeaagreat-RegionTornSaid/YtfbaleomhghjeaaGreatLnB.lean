/- What fall, Blow, request, Write, Flush leave of a line. No condition. -/
import Derived.Test.YtfbaleomhghjeaaGreatLnA
namespace Go.Proofs.YtfbaleomhghjeaaGreat
open Go.RowKit

/-- The blocks of a line that change. -/
def LnX (l f x : Nat) (k : Nat) : Prop := k = l ∨ k = f ∨ k = x
theorem LnM.fallTo {w w1 : World} {l b f x : Nat} {L : LV} (h : LnM w l b f x L) (hd : DevM w1 b f x (L.D.crash L.cs)) (hf : Frm (fun k => k = f ∨ k = x) w w1) : LnM ((w1.setCell ⟨l, 5, none⟩ (.bool true)).setCell ⟨l, 3, none⟩ (.slice none 0 0)) l b f x L.fall ∧ Frm (LnX l f x) w ((w1.setCell ⟨l, 5, none⟩ (.bool true)).setCell ⟨l, 3, none⟩ (.slice none 0 0)) :=
  ⟨(h.turn hd hf).cutDown, ((hf.mono fun _ _ h => .inr h).setCell (fun _ => .inl rfl) _).setCell (fun _ => .inl rfl) _⟩
set_option maxRecDepth 100000 in
set_option maxHeartbeats 2000000 in
theorem lfall_any (l b f x : Nat) (L : LV) (w : World) (h : LnM w l b f x L) (hd : L.down = false) :
    Calls Tryz.prog 54 #[.pointer (some ⟨l, 0, none⟩), .func (.func 55) #[.pointer (some ⟨b, 0, none⟩)] #[]] w fun e w' => e = .returned (.tuple #[]) ∧ LnM w' l b f x L.fall ∧ Frm (LnX l f x) w w' := by
  obtain ⟨cv, hc⟩ := h
  have c3 := hc.blk.cell 3 rfl
  have HC := Lib.hid (crash_any b f x L.D cv L.cs w hc.dev (hc.zs hd) hc.ok.cs hc.ok.few ((hc.za hd).imp id fun q g hg => (q g hg).1))
  have H : LnM w l b f x L := ⟨cv, hc⟩
  have H := Lib.hid H
  clear hc hd
  go_enter Tryz.func54, Tryz.ntmps54
  go_wp2_with fail
  refine HC.out.mono ?_
  rintro e w1 ⟨rfl, hd1, g1⟩
  have HF := Lib.hid (H.out.fallTo hd1 g1)
  have h1 := H.out.turn hd1 g1
  have e5 := h1.down
  have f5 := h1.free 5
  have f3 := h1.free 3
  obtain ⟨cv1, hc1⟩ := h1
  have e3 := hc1.blk.cell 3 rfl
  clear hc1 hd1 g1 HC
  go_wp2_with fail
  go_end0
  exact ⟨rfl, HF.out⟩
set_option maxRecDepth 100000 in
set_option maxHeartbeats 2000000 in
theorem lblow_any (l b f x : Nat) (L : LV) (w : World) (h : LnM w l b f x L) :
    Calls Tryz.prog 23 #[.pointer (some ⟨l, 0, none⟩)] w fun e w' => e = .returned (.tuple #[]) ∧ LnM w' l b f x L.blow ∧ Frm (LnX l f x) w w' := by
  have HD := ldown_any l b f x L w h
  have c1 := h.d
  cases hd : L.down with
  | true =>
    have HB : LnM w l b f x L.blow := by unfold LV.blow; rw [if_pos hd]; exact h
    rw [hd] at HD
    have HD := Lib.hid HD
    have HB := Lib.hid HB
    clear hd h
    go_enter Tryz.func23, Tryz.ntmps23
    go_wp2_with fail
    refine HD.out.mono ?_
    rintro e w1 ⟨rfl, rfl⟩
    go_wp2_with fail
    go_end0
    exact ⟨rfl, HB.out, Frm.refl _ _⟩
  | false =>
    have HB := lfall_any l b f x L w h hd
    have eb : L.blow = L.fall := by unfold LV.blow; rw [hd]; rfl
    rw [eb]
    rw [hd] at HD
    have HD := Lib.hid HD
    have HB := Lib.hid HB
    clear hd h eb
    go_enter Tryz.func23, Tryz.ntmps23
    go_wp2_with fail
    refine HD.out.mono ?_
    rintro e w1 ⟨rfl, rfl⟩
    go_wp2_with fail
    refine HB.out.mono ?_
    rintro e w1 ⟨rfl, h1, g1⟩
    go_wp2_with fail
    go_end0
    exact ⟨rfl, h1, g1⟩
/-- What an act does to the device, as a function value. -/
def ActTo (l b f x : Nat) (L : LV) (D' : DV) (c : Nat) (F : FuncId) (args : Array Value) (w : World) : Prop :=
  ∀ W, Frm (LnX l f x) w W → LnM W l b f x L.count → Calls Tryz.prog F args W fun e W' => e = .returned (.int .i64 (c : Nat)) ∧ DevM W' b f x D' ∧ Frm (fun k => k = f ∨ k = x) W W'
set_option maxRecDepth 100000 in
set_option maxHeartbeats 4000000 in
theorem lreq_any (l b f x : Nat) (L : LV) (D' : DV) (c : Nat) (F : FuncId) (args : Array Value) (w : World) (h : LnM w l b f x L) (ha : L.acts ≤ 1000000) (hE : ∀ W, (callFunc F args).run Tryz.prog W = .ok (.enter F args) W) (hA : ActTo l b f x L D' c F args w) :
    Calls Tryz.prog 44 #[.pointer (some ⟨l, 0, none⟩), .func (.func F) #[] args] w fun e w' => e = .returned (.int .i64 (L.code c : Nat)) ∧ LnM w' l b f x (L.act D') ∧ Frm (LnX l f x) w w' := by
  have HC := lcheck_any l b f x L w h
  cases hd : L.down with
  | true =>
    have eb : L.act D' = L := by unfold LV.act; rw [if_pos hd]
    have ec : L.code c = 8 := by unfold LV.code; rw [if_pos (.inl hd)]
    rw [hd] at HC
    rw [eb, ec]
    have HC := Lib.hid HC
    have H := Lib.hid h
    clear hd h eb ec hA hE
    go_enter Tryz.func44, Tryz.ntmps44
    go_wp2_with fail
    refine HC.out.mono ?_
    rintro e w1 ⟨rfl, rfl⟩
    go_wp2_with fail
    go_ret
    exact ⟨rfl, H.out, Frm.refl _ _⟩
  | false =>
    have h1 := h.count
    rw [show (((L.acts + 1 : Nat) : Int)) = (L.acts : Int) + 1 from by omega] at h1
    have c4 := h.acts
    have f4 := h.free 4
    have c2 := h.cut
    have c1 := h.d
    have g1 : Frm (LnX l f x) w (w.setCell ⟨l, 4, none⟩ (.int .i64 ((L.acts : Int) + 1))) := (Frm.refl (LnX l f x) w).setCell (fun _ => .inl rfl) _
    have HA := Lib.hid (hA _ g1 h1)
    have hdc : L.count.down = false := hd
    rw [hd] at HC
    have HC := Lib.hid HC
    have HL := Lib.hid (llate_any l b f x L.count _ h1 hdc)
    have H1 := Lib.hid (And.intro h1 (And.intro g1 hdc))
    have HD := Lib.hid hd
    clear h h1 hA g1 hd hdc
    by_cases heq : (L.acts : Int) = L.cut
    · have ec : L.code c = 8 := by unfold LV.code; rw [if_pos (.inr heq)]
      rw [ec]
      have hb : ((L.acts : Int) == L.cut) = true := beq_iff_eq.2 heq
      have hb2 : ((L.acts : Int) != L.cut) = false := by rw [bne, hb]; rfl
      have HE := Lib.hid heq
      clear heq ec
      cases ho : L.odd with
      | false =>
        have eb : L.act D' = L.count.fall := by unfold LV.act; rw [if_neg (by rw [HD.out]; exact Bool.false_ne_true), if_neg (not_not_intro HE.out), if_neg (by rw [ho]; exact Bool.false_ne_true)]
        have ho2 : L.count.odd = false := ho
        rw [ho2] at HL
        have HF := Lib.hid (lfall_any l b f x L.count _ H1.out.1 H1.out.2.2)
        have EB := Lib.hid eb
        clear ho ho2 eb HD HE
        go_enter Tryz.func44, Tryz.ntmps44
        go_wp2_with fail
        refine HC.out.mono ?_
        rintro e w1 ⟨rfl, rfl⟩
        go_wp2_with fail
        refine HL.out.mono ?_
        rintro e w1 ⟨rfl, rfl⟩
        go_wp2_with fail
        refine HF.out.mono ?_
        rintro e w2 ⟨rfl, h2, g2⟩
        go_wp2_with fail
        go_ret
        exact ⟨rfl, by rw [EB.out]; exact h2, H1.out.2.1.trans g2⟩
      | true =>
        have eb : L.act D' = ({ L.count with D := D' } : LV).fall := by unfold LV.act; rw [if_neg (by rw [HD.out]; exact Bool.false_ne_true), if_neg (not_not_intro HE.out), if_pos ho]
        have ho2 : L.count.odd = true := ho
        rw [ho2] at HL
        have EB := Lib.hid eb
        clear ho ho2 eb HE
        go_enter Tryz.func44, Tryz.ntmps44
        go_wp2_with fail
        refine HC.out.mono ?_
        rintro e w1 ⟨rfl, rfl⟩
        go_wp2_with fail
        refine HL.out.mono ?_
        rintro e w1 ⟨rfl, rfl⟩
        go_wp2_with fail
        refine HA.out.mono ?_
        rintro e w2 ⟨rfl, hd2, gd2⟩
        have h2 := H1.out.1.turn hd2 gd2
        have e1 := h2.d
        have HF := Lib.hid (lfall_any l b f x _ _ h2 H1.out.2.2)
        have G2 := Lib.hid (H1.out.2.1.trans (gd2.mono fun _ _ h => .inr h : Frm (LnX l f x) _ w2))
        clear hd2 gd2 h2
        go_wp2_with fail
        refine HF.out.mono ?_
        rintro e w3 ⟨rfl, h3, g3⟩
        go_wp2_with fail
        go_ret
        exact ⟨rfl, by rw [EB.out]; exact h3, G2.out.trans g3⟩
    · have eb : L.act D' = { L.count with D := D' } := by unfold LV.act; rw [if_neg (by rw [HD.out]; exact Bool.false_ne_true), if_pos heq]
      have ec : L.code c = c := by unfold LV.code; rw [if_neg (by rw [HD.out]; rintro (h | h); exact Bool.false_ne_true h; exact heq h)]
      rw [ec]
      have hb : ((L.acts : Int) == L.cut) = false := beq_eq_false_iff_ne.2 heq
      have hb2 : ((L.acts : Int) != L.cut) = true := by rw [bne, hb]; rfl
      have EB := Lib.hid eb
      clear eb ec heq HD
      go_enter Tryz.func44, Tryz.ntmps44
      go_wp2_with fail
      refine HC.out.mono ?_
      rintro e w1 ⟨rfl, rfl⟩
      go_wp2_with fail
      refine HA.out.mono ?_
      rintro e w2 ⟨rfl, hd2, gd2⟩
      have H2 := Lib.hid (H1.out.1.turn hd2 gd2)
      have G2 := Lib.hid (H1.out.2.1.trans (gd2.mono fun _ _ h => .inr h : Frm (LnX l f x) _ w2))
      clear hd2 gd2
      go_wp2_with fail
      go_ret
      exact ⟨rfl, by rw [EB.out]; exact H2.out, G2.out⟩
end Go.Proofs.YtfbaleomhghjeaaGreat

