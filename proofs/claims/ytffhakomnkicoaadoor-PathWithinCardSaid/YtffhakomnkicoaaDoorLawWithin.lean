/- PathWithin: what the law's call answers. Conditions: the tables and errors of strconv lie as the program's text lays them (Vars). -/
import Derived.Test.YtffhakomnkicoaaDoorFew
namespace Go.Proofs.YtffhakomnkicoaaDoor
open Go.RowKit

theorem within_self (l : List (List UInt8)) : within l l = true := by unfold within; simp
theorem within_up (l : List (List UInt8)) : within l.dropLast l = true := by
  unfold within
  rw [decide_eq_true_eq, List.dropLast_eq_take]
  exact List.take_prefix _ _
theorem within_from (a r : List (List UInt8)) : within a (a ++ r) = true := by unfold within; simp
theorem within_nil (l : List (List UInt8)) : within [] l = true := by unfold within; simp

set_option maxRecDepth 100000 in
set_option maxHeartbeats 3000000 in
theorem within_few (v1 v2 v3 : Value) (r a b : List (List UInt8)) (w : World) (hv : Vars w) (h1 : Strs w v1 r) (h2 : Strs w v2 a) (h3 : Strs w v3 b) (e1 : fewb r = true) (e2 : fewb a = true) (e3 : fewb b = true) :
    Calls Tryd.prog 8 #[v1, v2, v3] w fun e w' => e = .returned (.bool true) ∧ Fr w w' := by
  have hf1 := few_any v1 r w h1
  have hf2 := few_any v2 a w h2
  have hf3 := few_any v3 b w h3
  rw [e1] at hf1
  rw [e2] at hf2
  rw [e3] at hf3
  have l1 := fewb_len e1
  have l2 := fewb_len e2
  have l3 := fewb_len e3
  have F1 := Lib.hid hf1
  have F2 := Lib.hid hf2
  have F3 := Lib.hid hf3
  clear hf1 hf2 hf3 e1 e2 e3
  obtain ⟨vl, wl, hrun, ho, hg, hn⟩ := append_strs w (.slice none 0 0) v2 [] a (OwnS.nil_ w) h2 (by simp; omega)
  rw [List.nil_append] at ho
  have gl : Fr w wl := (Frm.refl _ w).grown hg (fun k hk e => by cases e)
  have nl : ∀ g, vl.ownBlock = some g → w.heap.size ≤ g := fun g hgv => (hn g hgv).elim (fun e => by cases e) (fun e => e)
  obtain ⟨vm, wm, hrun2, ho2, hg2, hn2⟩ := append_strs wl vl v1 a r ho (h1.keepF gl) (by omega)
  have gm : Fr w wm := gl.grown hg2 (fun k hk e => by have := nl k e; omega)
  have nm : ∀ g, vm.ownBlock = some g → w.heap.size ≤ g := fun g hgv => (hn2 g hgv).elim (nl g) (fun e => Nat.le_trans gl.size e)
  have hal : (a ++ r).length = a.length + r.length := List.length_append
  have hmv : move (a ++ r) a b = b ++ r := move_in a b r
  have hmb : move (b ++ r) b a = a ++ r := move_in b a r
  have U := Lib.hid (fun w1 (f : Fr wm w1) => up_any vm (a ++ r) w1 (ho2.reads.keepF f) (by omega))
  have M := Lib.hid (fun w1 (f : Fr wm w1) => by have := move_any vm v2 v3 (a ++ r) a b w1 (ho2.reads.keepF f) (h2.keepF (gm.trans f)) (h3.keepF (gm.trans f)) (by omega) (by omega); rw [hmv] at this; exact this)
  have W1 := Lib.hid (fun w1 (f : Fr wm w1) => by have := within_any vm vm (a ++ r) (a ++ r) w1 (ho2.reads.keepF f) (ho2.reads.keepF f); rw [within_self] at this; exact this)
  have W2 := Lib.hid (fun vu w1 (f : Fr wm w1) (o : Strs w1 vu (a ++ r).dropLast) => by have := within_any vu vm _ (a ++ r) w1 o (ho2.reads.keepF f); rw [within_up] at this; exact this)
  have W3 := Lib.hid (fun w1 (f : Fr wm w1) => by have := within_any v2 vm a (a ++ r) w1 (h2.keepF (gm.trans f)) (ho2.reads.keepF f); rw [within_from] at this; exact this)
  have W4 := Lib.hid (fun w1 (f : Fr wm w1) => by have := within_any (.slice none 0 0) vm [] (a ++ r) w1 (Strs.none_ w1) (ho2.reads.keepF f); rw [within_nil] at this; exact this)
  have W5 := Lib.hid (fun vx w1 (f : Fr wm w1) (o : Strs w1 vx (b ++ r)) => by have := within_any v3 vx b (b ++ r) w1 (h3.keepF (gm.trans f)) o; rw [within_from] at this; exact this)
  have M2 := Lib.hid (fun vx w1 (f : Fr wm w1) (o : Strs w1 vx (b ++ r)) => by have := move_any vx v3 v2 (b ++ r) b a w1 o (h3.keepF (gm.trans f)) (h2.keepF (gm.trans f)) (by rw [List.length_append]; omega) (by omega); rw [hmb] at this; exact this)
  have SM := Lib.hid (fun vx w1 (f : Fr wm w1) (o : Strs w1 vx (a ++ r)) => same_yes vx vm (a ++ r) w1 o (ho2.reads.keepF f))
  obtain ⟨xl, cl, rfl, _, _⟩ := Row.slice ho
  obtain ⟨xm, cm, rfl, _, _⟩ := Row.slice ho2
  obtain ⟨x1, c1, rfl, _, _⟩ := h1.slice
  obtain ⟨x2, c2, rfl, _, _⟩ := h2.slice
  obtain ⟨x3, c3, rfl, _, _⟩ := h3.slice
  have hbl : (b ++ r).length = b.length + r.length := List.length_append
  have GM := Lib.hid gm
  have Hbl := Lib.hid hbl
  rw [hal] at hrun2 U M W1 W2 W3 W4 SM
  have HR1 := Lib.hid hrun
  have HR2 := Lib.hid hrun2
  have q1 : ((b.length : Int) + (r.length : Int) == (b.length : Int) + (r.length : Int)) = true := beq_self_eq_true _
  have hvm := Lib.hid (hv.keep gm)
  clear hbl hrun hrun2 ho ho2 hg hg2 hn hn2 gl nl gm nm hal hmv hmb h1 h2 h3
  go_enter Tryd.func8, Tryd.ntmps8
  go_wp2_with fail
  refine F1.out.mono ?_
  rintro e w1 ⟨rfl, rfl⟩
  go_wp2_with fail
  refine F2.out.mono ?_
  rintro e w2 ⟨rfl, rfl⟩
  go_wp2_with fail
  refine F3.out.mono ?_
  rintro e w3 ⟨rfl, rfl⟩
  go_wp2_with (first | (at_builtin; refine Lib.wpList_append_run _ rfl _ _ _ _ rfl _ _ rfl rfl _ _ HR1.out ?_) | (at_builtin; refine Lib.wpList_append_run _ rfl _ _ _ _ rfl _ _ rfl rfl _ _ HR2.out ?_))
  refine (U.out _ (Frm.refl _ _)).mono ?_
  rintro e wu ⟨vu, rfl, ou, fu, _⟩
  have su := ou.reads
  have W2u := Lib.hid (fun w1 (f : Fr wu w1) => W2.out vu w1 (fu.trans f) (su.keepF f))
  obtain ⟨xu, cu, rfl, _, _⟩ := Row.slice ou
  rw [List.length_dropLast, List.length_append] at W2u
  clear su ou W2 U F1 F2 F3 HR1 HR2
  go_wp2_with fail
  refine (M.out _ fu).mono ?_
  rintro e wv ⟨vv, rfl, ov, fv, _⟩
  have sv := ov.reads
  have W5v := Lib.hid (fun w1 (f : Fr wv w1) => W5.out vv w1 ((fu.trans fv).trans f) (sv.keepF f))
  have M2v := Lib.hid (fun w1 (f : Fr wv w1) => M2.out vv w1 ((fu.trans fv).trans f) (sv.keepF f))
  obtain ⟨xv, cv, rfl, _, _⟩ := Row.slice ov
  rw [Hbl.out] at W5v M2v ⊢
  have gv := fu.trans fv
  clear sv ov W5 M2 M
  go_wp2_with fail
  refine (W1.out _ gv).mono ?_
  rintro e wa ⟨rfl, fa⟩
  go_wp2_with fail
  refine (W2u.out _ (fv.trans fa)).mono ?_
  rintro e wb ⟨rfl, fb⟩
  have gb := fa.trans fb
  go_wp2_with fail
  refine (W3.out _ (gv.trans gb)).mono ?_
  rintro e wc ⟨rfl, fc⟩
  have gc := gb.trans fc
  go_wp2_with fail
  refine (W4.out _ (gv.trans gc)).mono ?_
  rintro e wd ⟨rfl, fd⟩
  have gd := gc.trans fd
  go_wp2_with fail
  refine (W5v.out _ gd).mono ?_
  rintro e we ⟨rfl, fe⟩
  have ge := gd.trans fe
  go_wp2_with fail
  refine (M2v.out _ ge).mono ?_
  rintro e wf ⟨vz, rfl, oz, ff, _⟩
  have gf := gv.trans (ge.trans ff)
  have hs := SM.out vz wf gf oz.reads
  obtain ⟨xz, cz, rfl, _, _⟩ := Row.slice oz
  rw [List.length_append] at hs
  have Hs := Lib.hid hs
  clear hs
  go_wp2_with fail
  refine Hs.out.mono ?_
  rintro e wg ⟨rfl, fg⟩
  have gg := gf.trans fg
  go_wp2_with fail
  refine (works_any _ (hvm.out.keep gg)).mono ?_
  rintro e wh ⟨rfl, fh⟩
  go_wp2_with fail
  go_ret
  exact ⟨rfl, GM.out.trans (gg.trans fh)⟩
set_option maxRecDepth 100000 in
set_option maxHeartbeats 2000000 in
theorem pathWithin_any (v1 v2 v3 : Value) (r a b : List (List UInt8)) (w : World) (hv : Vars w) (h1 : Strs w v1 r) (h2 : Strs w v2 a) (h3 : Strs w v3 b) :
    Calls Tryd.prog 8 #[v1, v2, v3] w fun e w' => e = .returned (.bool true) ∧ Fr w w' := by
  have hf1 := few_any v1 r w h1
  have hf2 := few_any v2 a w h2
  have hf3 := few_any v3 b w h3
  cases e1 : fewb r with
  | false =>
    rw [e1] at hf1
    have F1 := Lib.hid hf1
    obtain ⟨x1, c1, rfl, _, _⟩ := h1.slice
    obtain ⟨x2, c2, rfl, _, _⟩ := h2.slice
    obtain ⟨x3, c3, rfl, _, _⟩ := h3.slice
    clear hf1 hf2 hf3 e1 h1 h2 h3
    go_enter Tryd.func8, Tryd.ntmps8
    go_wp2_with fail
    refine F1.out.mono ?_
    rintro e w1 ⟨rfl, rfl⟩
    go_wp2_with fail
    refine (works_any _ hv).mono ?_
    rintro e wh ⟨rfl, fh⟩
    go_wp2_with fail
    go_ret
    exact ⟨rfl, fh⟩
  | true =>
    cases e2 : fewb a with
    | false =>
      rw [e1] at hf1
      rw [e2] at hf2
      have F1 := Lib.hid hf1
      have F2 := Lib.hid hf2
      obtain ⟨x1, c1, rfl, _, _⟩ := h1.slice
      obtain ⟨x2, c2, rfl, _, _⟩ := h2.slice
      obtain ⟨x3, c3, rfl, _, _⟩ := h3.slice
      clear hf1 hf2 hf3 e1 e2 h1 h2 h3
      go_enter Tryd.func8, Tryd.ntmps8
      go_wp2_with fail
      refine F1.out.mono ?_
      rintro e w1 ⟨rfl, rfl⟩
      go_wp2_with fail
      refine F2.out.mono ?_
      rintro e w1 ⟨rfl, rfl⟩
      go_wp2_with fail
      refine (works_any _ hv).mono ?_
      rintro e wh ⟨rfl, fh⟩
      go_wp2_with fail
      go_ret
      exact ⟨rfl, fh⟩
    | true =>
      cases e3 : fewb b with
      | false =>
        rw [e1] at hf1
        rw [e2] at hf2
        rw [e3] at hf3
        have F1 := Lib.hid hf1
        have F2 := Lib.hid hf2
        have F3 := Lib.hid hf3
        obtain ⟨x1, c1, rfl, _, _⟩ := h1.slice
        obtain ⟨x2, c2, rfl, _, _⟩ := h2.slice
        obtain ⟨x3, c3, rfl, _, _⟩ := h3.slice
        clear hf1 hf2 hf3 e1 e2 e3 h1 h2 h3
        go_enter Tryd.func8, Tryd.ntmps8
        go_wp2_with fail
        refine F1.out.mono ?_
        rintro e w1 ⟨rfl, rfl⟩
        go_wp2_with fail
        refine F2.out.mono ?_
        rintro e w1 ⟨rfl, rfl⟩
        go_wp2_with fail
        refine F3.out.mono ?_
        rintro e w1 ⟨rfl, rfl⟩
        go_wp2_with fail
        refine (works_any _ hv).mono ?_
        rintro e wh ⟨rfl, fh⟩
        go_wp2_with fail
        go_ret
        exact ⟨rfl, fh⟩
      | true => exact within_few v1 v2 v3 r a b w hv h1 h2 h3 e1 e2 e3
end Go.Proofs.YtffhakomnkicoaaDoor
