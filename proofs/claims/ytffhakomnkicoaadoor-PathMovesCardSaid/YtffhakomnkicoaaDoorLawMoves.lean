/- PathMoves: what the law's call answers. Conditions: the tables and errors of strconv lie as the program's text lays them (Vars). -/
import Derived.Test.YtffhakomnkicoaaDoorFew
import Derived.Test.YtffhakomnkicoaaDoorPrefA
namespace Go.Proofs.YtffhakomnkicoaaDoor
open Go.RowKit

/-- A slice whose cells may be written. -/
def Wr (w : World) (n : Nat) (v : Value) : Prop := ∃ a cap, v = .slice a n cap ∧ n ≤ cap ∧ ∀ j, j < n → ∃ g, a = some ⟨g, 0, none⟩ ∧ g < w.heap.size ∧ (w.cell? ⟨g, j, none⟩).isSome = true ∧ w.frozen? ⟨g, j, none⟩ = false
theorem OwnS.wr {w : World} {v : Value} {l : List (List UInt8)} (h : OwnS w v l) : Wr w l.length v := by
  rcases h.2 with ⟨rfl, h0⟩ | ⟨g, cap, rfl, h1, h2, ⟨o, ho, _⟩, h4, h5⟩
  · exact ⟨none, 0, by rw [h0], by omega, fun j hj => by omega⟩
  · refine ⟨_, cap, rfl, h1, fun j hj => ⟨g, rfl, (Array.getElem?_eq_some_iff.1 ho).1, ?_⟩⟩
    have := h5 j (by omega)
    exact this
theorem Wr.set {w : World} {n : Nat} {v : Value} (h : Wr w n v) (p : Addr) (u : Value) : Wr (w.setCell p u) n v := by
  obtain ⟨a, cap, rfl, h1, h2⟩ := h
  refine ⟨a, cap, rfl, h1, fun j hj => ?_⟩
  obtain ⟨g, rfl, hg, hc, hf⟩ := h2 j hj
  obtain ⟨x, hx⟩ := Option.isSome_iff_exists.1 hc
  obtain ⟨y, hy⟩ := cell?_setCell_some (p := p) (x := u) hx
  exact ⟨g, rfl, by simpa [World.setCell] using hg, by rw [hy]; rfl, by rw [World.frozen?_setCell]; exact hf⟩
theorem Wr.keep {X : Nat → Prop} {w w' : World} {n : Nat} {v : Value} (h : Wr w n v) (f : Frm X w w') (hn : ∀ g, v.ownBlock = some g → ¬ X g) : Wr w' n v := by
  obtain ⟨a, cap, rfl, h1, h2⟩ := h
  refine ⟨a, cap, rfl, h1, fun j hj => ?_⟩
  obtain ⟨g, rfl, hg, hc, hf⟩ := h2 j hj
  have hb := f.block g hg (hn g rfl)
  exact ⟨g, rfl, Nat.lt_of_lt_of_le hg f.size, by rw [World.cell?_of_block (a := ⟨g, j, none⟩) hb]; exact hc, by rw [← hf]; simp only [World.frozen?, hb]⟩
set_option maxRecDepth 100000 in
set_option maxHeartbeats 4000000 in
theorem moves_few (v1 v2 v3 : Value) (l a b : List (List UInt8)) (w : World) (hv : Vars w) (h1 : Strs w v1 l) (h2 : Strs w v2 a) (h3 : Strs w v3 b) (e1 : fewb l = true) (e2 : fewb a = true) (e3 : fewb b = true) :
    Calls Tryd.prog 5 #[v1, v2, v3] w fun e w' => e = .returned (.bool true) ∧ Fr w w' := by
  have hf1 := few_any v1 l w h1
  have hf2 := few_any v2 a w h2
  have hf3 := few_any v3 b w h3
  rw [e1] at hf1
  rw [e2] at hf2
  rw [e3] at hf3
  have l1 := fewb_len e1
  have l2 := fewb_len e2
  have l3 := fewb_len e3
  have F1 := Lib.hid hf1
  have F2 := Lib.hid hf2
  have F3 := Lib.hid hf3
  clear hf1 hf2 hf3 e1 e2 e3
  obtain ⟨vl, wl, hrun, ho, hg, hn⟩ := append_strs w (.slice none 0 0) v1 [] l (OwnS.nil_ w) h1 (by simp; omega)
  rw [List.nil_append] at ho
  have gl : Fr w wl := (Frm.refl _ w).grown hg (fun k hk e => by cases e)
  have M := Lib.hid (fun w1 (f : Fr wl w1) => move_any vl v2 v3 l a b w1 (ho.reads.keepF f) (h2.keepF (gl.trans f)) (h3.keepF (gl.trans f)) (by omega) (by omega))
  have U := Lib.hid (fun w1 (f : Fr wl w1) => by have := up_any vl l w1 (ho.reads.keepF f) (by omega); unfold UpTo at this; exact this)
  have RU := Lib.hid (fun w1 (f : Fr wl w1) => by have := rup_any v1 l w1 (h1.keepF (gl.trans f)) (by omega); unfold UpTo at this; exact this)
  have W1 := Lib.hid (fun w1 (f : Fr wl w1) => within_any v2 v1 a l w1 (h2.keepF (gl.trans f)) (h1.keepF (gl.trans f)))
  have W2 := Lib.hid (fun w1 (f : Fr wl w1) => rwithin_any v2 v1 a l w1 (h2.keepF (gl.trans f)) (h1.keepF (gl.trans f)))
  have RM := Lib.hid (fun w1 (f : Fr wl w1) => rmove_any v1 v2 v3 l a b w1 (h1.keepF (gl.trans f)) (h2.keepF (gl.trans f)) (h3.keepF (gl.trans f)) (by omega) (by omega))
  have SS := Lib.hid (fun w1 (o : Strs w1 vl l) (f : Fr w w1) => by have := rsame_any vl v1 l l w1 o (h1.keepF f); rw [decide_eq_true rfl] at this; exact this)
  have hob := ho.blk
  obtain ⟨x1, c1, rfl, _, _⟩ := h1.slice
  obtain ⟨x2, c2, rfl, _, _⟩ := h2.slice
  obtain ⟨x3, c3, rfl, _, _⟩ := h3.slice
  have HO := Lib.hid ho
  have HOB := Lib.hid hob
  obtain ⟨xl, cl, rfl, _, _⟩ := Row.slice ho
  have HR := Lib.hid hrun
  have GL := Lib.hid gl
  have q1 : ((bs (l.getLast?.getD [])).toList == (bs (l.getLast?.getD [])).toList) = true := beq_self_eq_true _
  have q2 : (within a l == within a l) = true := beq_self_eq_true _
  clear ho hob hrun hg hn h1 h2 h3 gl
  generalize hmv : move l a b = mv at *
  generalize hlast : l.getLast?.getD [] = last at *
  generalize hdl : l.dropLast = dl at *
  generalize within a l = wi at *
  clear hmv hlast hdl
  go_enter Tryd.func5, Tryd.ntmps5
  go_wp2_with fail
  refine F1.out.mono ?_
  rintro e w1 ⟨rfl, rfl⟩
  go_wp2_with fail
  refine F2.out.mono ?_
  rintro e w2 ⟨rfl, rfl⟩
  go_wp2_with fail
  refine F3.out.mono ?_
  rintro e w3 ⟨rfl, rfl⟩
  go_wp2_with (at_builtin; refine Lib.wpList_append_run _ rfl _ _ _ _ rfl _ _ rfl rfl _ _ HR.out ?_)
  refine (M.out _ (Frm.refl _ _)).mono ?_
  rintro e wa ⟨vm, rfl, om, fa, nm⟩
  have wm := om.wr
  obtain ⟨xm, cm, rfl, hm1, hm2⟩ := Row.slice om
  unfold maxLen at hm2
  go_wp2_with fail
  refine (U.out _ fa).mono ?_
  rintro e wb ⟨vu, rfl, ou, fb, nu⟩
  have wu := ou.wr
  obtain ⟨xu, cu, rfl, hu1, hu2⟩ := Row.slice ou
  unfold maxLen at hu2
  have gb := fa.trans fb
  have nu2 : ∀ g, Value.ownBlock (.slice xu dl.length cu) = some g → wl.heap.size ≤ g := fun g hg => Nat.le_trans fa.size (nu g hg)
  clear nu
  clear M U F1 F2 F3 HR
  go_wp2_with fail
  refine (RU.out _ gb).mono ?_
  rintro e wc ⟨vq, rfl, oq, fc, _⟩
  obtain ⟨xq, cq, rfl, _, _⟩ := Row.slice oq
  have gc := gb.trans fc
  have SU := Lib.hid (fun w1 (f : Fr wc w1) => by have := rsame_any _ _ dl dl w1 (ou.reads.keepF (fc.trans f)) (oq.reads.keepF f); rw [decide_eq_true rfl] at this; exact this)
  clear oq RU
  go_wp2_with fail
  refine (W1.out _ gc).mono ?_
  rintro e wd ⟨rfl, fd⟩
  have gd := gc.trans fd
  go_wp2_with fail
  refine (W2.out _ gd).mono ?_
  rintro e we ⟨rfl, fe⟩
  have ge := gd.trans fe
  clear W1 W2
  go_wp2_with fail
  refine (RM.out _ ge).mono ?_
  rintro e wf ⟨vr, rfl, or, ff, _⟩
  obtain ⟨xr, cr, rfl, _, _⟩ := Row.slice or
  have gf := ge.trans ff
  have fbf := ((fc.trans fd).trans fe).trans ff
  have hsm := rsame_any _ _ mv mv wf (om.reads.keepF (fb.trans fbf)) or.reads
  rw [decide_eq_true rfl] at hsm
  have SM := Lib.hid hsm
  clear RM or hsm
  go_wp2_with fail
  refine SM.out.mono ?_
  rintro e wg ⟨rfl, fg⟩
  have gg := gf.trans fg
  go_wp2_with fail
  refine (SU.out _ (((fd.trans fe).trans ff).trans fg)).mono ?_
  rintro e wh ⟨rfl, fh⟩
  have gh := gg.trans fh
  have fbh := (fbf.trans fg).trans fh
  have wm2 := wm.keep (fb.trans fbh) (fun _ _ h => h)
  have wu2 := wu.keep fbh (fun _ _ h => h)
  have z0 : Frm (fun k => wl.heap.size ≤ k) wl wh := gh.mono fun _ _ h => h.elim
  clear SM SU wm wu om ou fa fb fc fd fe ff fg fh fbf fbh gb gc gd ge gf gg gh
  go_wp2_with fail
  go_loopw [13] (fun i wr => ∃ k : Nat, k ≤ mv.length ∧ i = .int .i64 k ∧ Frm (fun k => wl.heap.size ≤ k) wl wr ∧ Wr wr mv.length (.slice xm mv.length cm) ∧ Wr wr dl.length (.slice xu dl.length cu)) (fun i _ => mv.length - (intOf i).toNat)
  case atStart => exact ⟨0, Nat.zero_le _, rfl, z0, wm2, wu2⟩
  case round =>
    clear z0 wm2 wu2
    obtain ⟨k, hk, rfl, z1, wm3, wu3⟩ := hrel
    by_cases hlt : k < mv.length
    · have hki : (k : Int) < (mv.length : Int) := by omega
      have hk0 : (0 : Int) ≤ (k : Int) := by omega
      obtain ⟨a', cap', eq, _, hw⟩ := id wm3
      cases eq
      obtain ⟨g, rfl, hgl, hc, hfz⟩ := hw k hlt
      obtain ⟨u, hu⟩ := Option.isSome_iff_exists.1 hc
      have hgn := nm g rfl
      clear hw hc
      go_wp2_with fail
      go_roundw
      case rel => exact ⟨k + 1, by omega, by go_num, z1.setCell (fun _ => hgn) _, wm3.set _ _, wu3.set _ _⟩
      case measure => simp [intOf]; omega
    · have hkm : (k : Int) = mv.length := by omega
      rw [hkm]
      clear hkm hlt hk
      go_wp2_with fail
      go_loopw [14] (fun i wr => ∃ k : Nat, k ≤ dl.length ∧ i = .int .i64 k ∧ Frm (fun k => wl.heap.size ≤ k) wl wr ∧ Wr wr dl.length (.slice xu dl.length cu)) (fun i _ => dl.length - (intOf i).toNat)
      case atStart => exact ⟨0, Nat.zero_le _, rfl, z1, wu3⟩
      case round =>
        clear z1 wm3 wu3
        obtain ⟨k, hk, rfl, z1, wu3⟩ := hrel
        by_cases hlt : k < dl.length
        · have hki : (k : Int) < (dl.length : Int) := by omega
          have hk0 : (0 : Int) ≤ (k : Int) := by omega
          obtain ⟨a', cap', eq, _, hw⟩ := id wu3
          cases eq
          obtain ⟨g, rfl, hgl, hc, hfz⟩ := hw k hlt
          obtain ⟨u, hu⟩ := Option.isSome_iff_exists.1 hc
          have hgn := nu2 g rfl
          clear hw hc
          go_wp2_with fail
          go_roundw
          case rel => exact ⟨k + 1, by omega, by go_num, z1.setCell (fun _ => hgn) _, wu3.set _ _⟩
          case measure => simp [intOf]; omega
        · have hkm : (k : Int) = dl.length := by omega
          rw [hkm]
          clear hkm hlt hk
          have fz : Fr w wr := GL.out.next z1 (fun k hk hz => by have := GL.out.size; omega)
          have oz : OwnS wr (.slice xl l.length cl) l := HO.out.keep z1 (fun g hg hz => by have := HOB.out g hg; omega)
          have hss := SS.out wr oz.reads fz
          have HSS := Lib.hid hss
          clear hss oz SS HO HOB wu3
          go_wp2_with fail
          refine HSS.out.mono ?_
          rintro e wk ⟨rfl, fk⟩
          go_wp2_with fail
          refine (works_any _ (hv.keep (fz.trans fk))).mono ?_
          rintro e wy ⟨rfl, fy⟩
          go_wp2_with fail
          go_ret
          exact ⟨rfl, (fz.trans fk).trans fy⟩
set_option maxRecDepth 100000 in
set_option maxHeartbeats 2000000 in
theorem pathMoves_any (v1 v2 v3 : Value) (r a b : List (List UInt8)) (w : World) (hv : Vars w) (h1 : Strs w v1 r) (h2 : Strs w v2 a) (h3 : Strs w v3 b) :
    Calls Tryd.prog 5 #[v1, v2, v3] w fun e w' => e = .returned (.bool true) ∧ Fr w w' := by
  have hf1 := few_any v1 r w h1
  have hf2 := few_any v2 a w h2
  have hf3 := few_any v3 b w h3
  cases e1 : fewb r with
  | false =>
    rw [e1] at hf1
    have F1 := Lib.hid hf1
    obtain ⟨x1, c1, rfl, _, _⟩ := h1.slice
    obtain ⟨x2, c2, rfl, _, _⟩ := h2.slice
    obtain ⟨x3, c3, rfl, _, _⟩ := h3.slice
    clear hf1 hf2 hf3 e1 h1 h2 h3
    go_enter Tryd.func5, Tryd.ntmps5
    go_wp2_with fail
    refine F1.out.mono ?_
    rintro e w1 ⟨rfl, rfl⟩
    go_wp2_with fail
    refine (works_any _ hv).mono ?_
    rintro e wh ⟨rfl, fh⟩
    go_wp2_with fail
    go_ret
    exact ⟨rfl, fh⟩
  | true =>
    cases e2 : fewb a with
    | false =>
      rw [e1] at hf1
      rw [e2] at hf2
      have F1 := Lib.hid hf1
      have F2 := Lib.hid hf2
      obtain ⟨x1, c1, rfl, _, _⟩ := h1.slice
      obtain ⟨x2, c2, rfl, _, _⟩ := h2.slice
      obtain ⟨x3, c3, rfl, _, _⟩ := h3.slice
      clear hf1 hf2 hf3 e1 e2 h1 h2 h3
      go_enter Tryd.func5, Tryd.ntmps5
      go_wp2_with fail
      refine F1.out.mono ?_
      rintro e w1 ⟨rfl, rfl⟩
      go_wp2_with fail
      refine F2.out.mono ?_
      rintro e w1 ⟨rfl, rfl⟩
      go_wp2_with fail
      refine (works_any _ hv).mono ?_
      rintro e wh ⟨rfl, fh⟩
      go_wp2_with fail
      go_ret
      exact ⟨rfl, fh⟩
    | true =>
      cases e3 : fewb b with
      | false =>
        rw [e1] at hf1
        rw [e2] at hf2
        rw [e3] at hf3
        have F1 := Lib.hid hf1
        have F2 := Lib.hid hf2
        have F3 := Lib.hid hf3
        obtain ⟨x1, c1, rfl, _, _⟩ := h1.slice
        obtain ⟨x2, c2, rfl, _, _⟩ := h2.slice
        obtain ⟨x3, c3, rfl, _, _⟩ := h3.slice
        clear hf1 hf2 hf3 e1 e2 e3 h1 h2 h3
        go_enter Tryd.func5, Tryd.ntmps5
        go_wp2_with fail
        refine F1.out.mono ?_
        rintro e w1 ⟨rfl, rfl⟩
        go_wp2_with fail
        refine F2.out.mono ?_
        rintro e w1 ⟨rfl, rfl⟩
        go_wp2_with fail
        refine F3.out.mono ?_
        rintro e w1 ⟨rfl, rfl⟩
        go_wp2_with fail
        refine (works_any _ hv).mono ?_
        rintro e wh ⟨rfl, fh⟩
        go_wp2_with fail
        go_ret
        exact ⟨rfl, fh⟩
      | true => exact moves_few v1 v2 v3 r a b w hv h1 h2 h3 e1 e2 e3
end Go.Proofs.YtffhakomnkicoaaDoor
