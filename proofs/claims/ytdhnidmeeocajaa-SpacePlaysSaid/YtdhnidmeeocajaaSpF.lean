/- What Take answers. No condition. -/
import Derived.Test.YtdhnidmeeocajaaSpE
namespace Go.Proofs.Ytdhnidmeeocajaa
open Go.RowKit Go.Shelf
attribute [local go_sem] Oper.semAt_some

theorem cell_isCells {w : World} {b j : Nat} {v : Value} (h : w.cell? ⟨b, j, none⟩ = some v) : ∃ o : Obj, w.heap[b]? = some o ∧ o.isCells = true := by
  unfold World.cell? at h
  split at h
  · rename_i hb
    exact ⟨_, hb, rfl⟩
  · simp at h
section
variable {w w' : World} {s g : Nat} {S : SpV}
theorem SpM.gcells (h : SpM w s g S) : ∃ o : Obj, w.heap[g]? = some o ∧ o.isCells = true := by
  obtain ⟨x, _, hc⟩ := h.pg
  have := h.ok.lo
  exact cell_isCells (hc 0 (by unfold SpV.np; omega)).1
theorem SpM.scells (h : SpM w s g S) : ∃ o : Obj, w.heap[s]? = some o ∧ o.isCells = true := by
  obtain ⟨_, _, _, hb⟩ := h.blk
  exact ⟨_, hb, rfl⟩
theorem SpM.turned {row : Option Nat} (h : SpM w s g S) (hg : w.grownBy w' row) (hr : ∀ r, row = some r → ∃ o : Obj, w.heap[r]? = some o ∧ o.isCells = false) : SpM w' s g S := by
  have no : ∀ b, (∃ o : Obj, w.heap[b]? = some o ∧ o.isCells = true) → ¬ row = some b := fun b ⟨o, ho, hc⟩ e => by
    obtain ⟨o', ho', hc'⟩ := hr b e
    rw [ho] at ho'
    cases ho'
    rw [hc] at hc'
    cases hc'
  exact h.keepB (hg.block s h.slt fun e => no s h.scells e.symm) (hg.block g h.lt fun e => no g h.gcells e.symm)
end
structure TakI {S : SpV} (s g : Nat) (w : World) (pre : List (SE S)) (W : World) : Prop where
  nil : pre = []
  box : Blk W w.heap.size 26 #[.pointer (some ⟨s, 0, none⟩)]
  res : Blk W (w.heap.size + 1) 3 #[.int .i64 0]
  err : Blk W (w.heap.size + 2) 27 #[.int .i64 0]
  sp : SpM W s g S
  frm : Frm (fun _ => False) w W
structure TakX {S : SpV} (s g : Nat) (w : World) (pre : List (SE S)) (W : World) (x : SE S) : Prop where
  one : pre = [x]
  res : Blk W (w.heap.size + 1) 3 #[.int .i64 (x.1 : Nat)]
  err : Blk W (w.heap.size + 2) 27 #[.int .i64 0]
  sp : SpM W s g (S.flip x.1)
  frm : Frm (· = g) w W
theorem TakI.own {S : SpV} (s g : Nat) (w : World) (B : Nat) (hB : w.heap.size ≤ B) : OwnFrom B (TakI (S := S) s g w) := fun _ _ _ _ h hg hr => by
  have hr2 := fun r e => (hr r e).2
  exact ⟨h.nil, h.box.turned hg hr2, h.res.turned hg hr2, h.err.turned hg hr2, h.sp.turned hg hr2, h.frm.turned hB hg hr⟩
theorem TakX.own {S : SpV} (s g : Nat) (w : World) (B : Nat) (hB : w.heap.size ≤ B) : OwnFrom B (fun pre W => ∃ x, TakX (S := S) s g w pre W x) := fun _ _ _ _ ⟨x, h⟩ hg hr => by
  have hr2 := fun r e => (hr r e).2
  exact ⟨x, h.one, h.res.turned hg hr2, h.err.turned hg hr2, h.sp.turned hg hr2, h.frm.turned hB hg hr⟩
/-- What Take answers. -/
def TakeTo (s g : Nat) (r : SpV × Nat × Nat) (w : World) (e : Ending) (w' : World) : Prop :=
  e = .returned (.tuple #[.int .i64 (r.2.1 : Nat), .int .i64 (r.2.2 : Nat)]) ∧ SpM w' s g r.1 ∧ Frm (· = g) w w'
set_option maxRecDepth 100000 in
set_option maxHeartbeats 4000000 in
theorem sptake_any (s g : Nat) (S : SpV) (w : World) (h : SpM w s g S) :
    Calls Try.prog 13 #[.pointer (some ⟨s, 0, none⟩)] w (TakeTo s g S.take w) := by
  obtain ⟨T, hT⟩ : ∃ T, S.take = T := ⟨_, rfl⟩
  rw [hT]
  have HT := Lib.hid hT
  have hsl := h.slt
  have hgl := h.lt
  have HM := Lib.hid (fun W (gW : Frm (fun _ => False) w W) => spmade_any s g S W (h.keepF gW))
  have HA := Lib.hid (fun W => spall_any (some ⟨s, 0, none⟩) W)
  have H := Lib.hid h
  clear hT h
  refine (callsIn_wide (n := 9)).1 ?_
  refine callsIn_of_wp_marks Try.func13 rfl trivial ?_ rfl
  simp only [Try.ntmps13, List.size_toArray, List.length_cons, List.length_nil, Nat.reduceAdd, Nat.reduceSub, Array.replicate_succ, Array.replicate_zero, List.push_toArray, List.append_toArray, List.nil_append, List.cons_append]
  refine wpIn_wide.2 ?_
  refine Code.wp_mono calmR_le ?_
  have g3 : Frm (fun _ => False) w (((w.alloc (.cells #[.pointer (some ⟨s, 0, none⟩)] 26)).alloc (.cells #[.int .i64 0] 3)).alloc (.cells #[.int .i64 0] 27)) := (((Frm.refl _ w).alloc _).alloc _).alloc _
  have hbx : Blk (((w.alloc (.cells #[.pointer (some ⟨s, 0, none⟩)] 26)).alloc (.cells #[.int .i64 0] 3)).alloc (.cells #[.int .i64 0] 27)) w.heap.size 26 #[.pointer (some ⟨s, 0, none⟩)] := ((Blk.alloc w _ _).old _).old _
  have hrs : Blk (((w.alloc (.cells #[.pointer (some ⟨s, 0, none⟩)] 26)).alloc (.cells #[.int .i64 0] 3)).alloc (.cells #[.int .i64 0] 27)) (w.heap.size + 1) 3 #[.int .i64 0] := by
    have := (Blk.alloc (w.alloc (.cells #[.pointer (some ⟨s, 0, none⟩)] 26)) 3 #[.int .i64 0]).old (.cells #[.int .i64 0] 27)
    simpa using this
  have her : Blk (((w.alloc (.cells #[.pointer (some ⟨s, 0, none⟩)] 26)).alloc (.cells #[.int .i64 0] 3)).alloc (.cells #[.int .i64 0] 27)) (w.heap.size + 2) 27 #[.int .i64 0] := by
    have := Blk.alloc ((w.alloc (.cells #[.pointer (some ⟨s, 0, none⟩)] 26)).alloc (.cells #[.int .i64 0] 3)) 27 #[.int .i64 0]
    simpa using this
  have hsz3 : (((w.alloc (.cells #[.pointer (some ⟨s, 0, none⟩)] 26)).alloc (.cells #[.int .i64 0] 3)).alloc (.cells #[.int .i64 0] 27)).heap.size = w.heap.size + 3 := by simp
  have HG := Lib.hid (And.intro g3 (And.intro hbx (And.intro hrs (And.intro her hsz3))))
  have HM3 := Lib.hid (HM.out _ g3)
  have HM := HM3
  clear g3 hbx hrs her hsz3
  go_wp2_with fail
  refine HM.out.mono ?_
  rintro e w1 ⟨rfl, rfl⟩
  clear HM HM3
  go_wp2_with fail
  refine (HA.out _).mono ?_
  rintro e w1 ⟨rfl, rfl⟩
  go_wp2_with fail
  obtain ⟨w3, hw3⟩ : ∃ w3, (((w.alloc (.cells #[.pointer (some ⟨s, 0, none⟩)] 26)).alloc (.cells #[.int .i64 0] 3)).alloc (.cells #[.int .i64 0] 27)) = w3 := ⟨_, rfl⟩
  rw [hw3] at HG ⊢
  have g4 : Frm (fun _ => False) w3 (w3.alloc (.cells #[.pointer (some ⟨s, 0, none⟩)] 26)) := (Frm.refl _ w3).alloc _
  have hBn := Blk.alloc w3 26 #[.pointer (some ⟨s, 0, none⟩)]
  have hsz := HG.out.2.2.2.2
  have hI0 : TakI (S := S) s g w [] (w3.alloc (.cells #[.pointer (some ⟨s, 0, none⟩)] 26)) :=
    ⟨rfl, HG.out.2.1.old _, HG.out.2.2.1.old _, HG.out.2.2.2.1.old _, H.out.keepF (HG.out.1.trans g4), HG.out.1.trans g4⟩
  have hsz4 : (w3.alloc (.cells #[.pointer (some ⟨s, 0, none⟩)] 26)).heap.size = w.heap.size + 4 := by simp [hsz]
  rw [hsz] at hBn
  generalize w3.alloc (.cells #[.pointer (some ⟨s, 0, none⟩)] 26) = wy at *
  have hwy : w.heap.size ≤ wy.heap.size := by omega
  have HSZ := Lib.hid hsz4
  clear hsz hsz4 hw3 g4 HG
  refine (wpIn_wide (n := 9)).1 ?_
  refine wpIn_rangeFunc_ownF rfl (by omega) (gf := 33) (lb := #[.pointer (some ⟨w.heap.size + 3, 0, none⟩)]) rfl trivial (enters_of Try.func33 (by kernel_rfl) rfl)
    (spall_stops (w.heap.size + 3) s g S wy hBn hI0.sp) keptX.trans (keptX.put (fun k hk => by have := HSZ.out; rcases hk with rfl | rfl | rfl <;> omega)) (Below.refl _ _) (fun _ => rfl)
    (TakI s g w) (fun c pre W => c = .ret ∧ ∃ x, TakX s g w pre W x) (TakI.own s g w _ hwy) (fun c => OwnFrom.and (fun _ _ _ _ e _ _ => e) (TakX.own s g w _ hwy)) hI0 ?a1 ?assign ?body ?done ?stop
  case assign =>
    intro l0 x W K hK
    gi_wp2
    exact hK
  case body =>
    rintro l0 pre x W hv _
    have c0 := hv.box.cell 0 rfl
    have HF := Lib.hid (sflip_any s g x.1 S W hv.sp x.2.1 x.2.2)
    have HV := Lib.hid hv
    have hnil := hv.nil
    subst hnil
    clear hv
    gi_wp2_with fail
    refine ⟨trivial, (CallsIn.inRound l0 (callsIn_wide.2 HF.out)).mono ?_⟩
    rintro e W1 ⟨rfl, h1, g1⟩
    have hne1 : ¬ (w.heap.size + 1 = g) := by omega
    have hne2 : ¬ (w.heap.size + 2 = g) := by omega
    have r1 := HV.out.res.keep g1 hne1
    have e1 := HV.out.err.keep g1 hne2
    have cr := r1.cell 0 rfl
    have fr := r1.free 0
    have ce := e1.cell 0 rfl
    have fe := e1.free 0
    have HX := Lib.hid (And.intro h1 (And.intro g1 (And.intro r1 e1)))
    clear h1 g1 r1 e1
    gi_wp2_with fail
    obtain ⟨h1, g1, r1, e1⟩ := HX.out
    have gX : Frm (fun k => k = g ∨ k = w.heap.size + 1 ∨ k = w.heap.size + 1 + 1) W ((W1.setCell ⟨w.heap.size + 1, 0, none⟩ (.int .i64 (x.1 : Nat))).setCell ⟨w.heap.size + 1 + 1, 0, none⟩ (.int .i64 0)) :=
      ((g1.mono fun _ _ h => .inl h).setCell (p := ⟨w.heap.size + 1, 0, none⟩) (fun _ => .inr (.inl rfl)) _).setCell (p := ⟨w.heap.size + 1 + 1, 0, none⟩) (fun _ => .inr (.inr rfl)) _
    refine ⟨gX.others fun k o hk ho => ?_, rfl, x, rfl, ?_, ?_, ?_, ?_⟩
    · rcases hk with rfl | rfl | rfl
      · obtain ⟨o', ho', hc'⟩ := HV.out.sp.gcells
        rw [ho] at ho'
        cases ho'
        exact hc'
      · exact HV.out.res.isCells _ o rfl ho
      · exact HV.out.err.isCells _ o rfl ho
    · exact (r1.set 0 _).other (p := ⟨w.heap.size + 1 + 1, 0, none⟩) (by simp) _
    · exact (e1.other (p := ⟨w.heap.size + 1, 0, none⟩) (by simp) (.int .i64 (x.1 : Nat))).set 0 _
    · exact h1.keepB ((Below.heap_setCell _ _ _ _ (by simp; omega)).trans (Below.heap_setCell _ _ _ _ (by simp; omega))) ((Below.heap_setCell _ _ _ _ (by simp; omega)).trans (Below.heap_setCell _ _ _ _ (by simp; omega)))
    · exact (((HV.out.frm.mono fun _ _ h => h.elim).trans g1).setCell (p := ⟨w.heap.size + 1, 0, none⟩) (fun h => absurd h (by simp)) _).setCell (p := ⟨w.heap.size + 1 + 1, 0, none⟩) (fun h => absurd h (by simp; omega)) _
  case done =>
    rintro D xs W hD hxs hv hK
    have hnil := hv.nil
    subst hnil
    have hDlt := (Array.getElem?_eq_some_iff.1 hK).1
    have r1 := hv.res
    have e1 := hv.err
    have cr := r1.cell 0 rfl
    have fr := r1.free 0
    have ce := e1.cell 0 rfl
    have fe := e1.free 0
    have HV := Lib.hid hv
    have HX := Lib.hid (show ([] : List Nat) = S.all from hxs)
    clear hv hxs
    go_wp2_with fail
    refine calmR_ret ?_
    have hK' := (KeepsOthers.trans (KeepsOthers.setCell W ⟨w.heap.size + 1, 0, none⟩ (.int .i64 0)) (KeepsOthers.setCell _ ⟨w.heap.size + 1 + 1, 0, none⟩ (.int .i64 7))).same D _ hK rfl
    have hgp := grownBy_putObj' ((W.setCell ⟨w.heap.size + 1, 0, none⟩ (.int .i64 0)).setCell ⟨w.heap.size + 1 + 1, 0, none⟩ (.int .i64 7)) D (.deferred none)
    have hrow : ∀ q, some D = some q → ∃ o : Obj, ((W.setCell ⟨w.heap.size + 1, 0, none⟩ (.int .i64 0)).setCell ⟨w.heap.size + 1 + 1, 0, none⟩ (.int .i64 7)).heap[q]? = some o ∧ o.isCells = false := fun q e => by cases e; exact ⟨_, hK', rfl⟩
    have c0 := (((r1.set 0 (.int .i64 0)).other (p := ⟨w.heap.size + 1 + 1, 0, none⟩) (by simp) (.int .i64 7)).turned hgp hrow).cell 0 rfl
    have c1 := (((e1.other (p := ⟨w.heap.size + 1, 0, none⟩) (by simp) (.int .i64 0)).set 0 (.int .i64 7)).turned hgp hrow).cell 0 rfl
    have hsp : SpM ((W.setCell ⟨w.heap.size + 1, 0, none⟩ (.int .i64 0)).setCell ⟨w.heap.size + 1 + 1, 0, none⟩ (.int .i64 7)) s g S := HV.out.sp.keepB ((Below.heap_setCell _ _ _ _ (by simp; omega)).trans (Below.heap_setCell _ _ _ _ (by simp; omega))) ((Below.heap_setCell _ _ _ _ (by simp; omega)).trans (Below.heap_setCell _ _ _ _ (by simp; omega)))
    have hsp2 := hsp.turned hgp hrow
    have hf3 : Frm (fun _ => False) w _ := ((HV.out.frm.setCell (p := ⟨w.heap.size + 1, 0, none⟩) (fun h => absurd h (by simp)) (.int .i64 0)).setCell (p := ⟨w.heap.size + 1 + 1, 0, none⟩) (fun h => absurd h (by simp; omega)) (.int .i64 7)).grown hgp (fun k hk e => by cases e; omega)
    refine ⟨by simp, .inl ⟨_, _, rfl, run_takeDeferred hK', ?_⟩⟩
    refine ⟨.tuple #[.int .i64 0, .int .i64 7], by simp [results, Try.results13, go_sem, c0, c1], ?_⟩
    have e : T = (S, 0, 7) := by
      rw [← HT.out]
      unfold SpV.take
      rw [← HX.out]
    rw [e]
    exact ⟨rfl, hsp2, hf3.mono fun _ _ h => h.elim⟩
  case stop =>
    rintro D c pre W hD hS ⟨rfl, x, hx⟩ hK
    have hgp := grownBy_putObj' W D (.deferred none)
    have hrow : ∀ q, some D = some q → ∃ o : Obj, W.heap[q]? = some o ∧ o.isCells = false := fun q e => by cases e; exact ⟨_, hK, rfl⟩
    have c0 := (hx.res.turned hgp hrow).cell 0 rfl
    have c1 := (hx.err.turned hgp hrow).cell 0 rfl
    have hsp2 := hx.sp.turned hgp hrow
    have hf3 : Frm (· = g) w _ := hx.frm.grown hgp (fun k hk e => by cases e; omega)
    have e : T = (S.flip x.1, x.1, 0) := by
      rw [← HT.out]
      have h1 := hS.1
      rw [hx.one] at h1
      obtain ⟨rest, hrest⟩ := h1
      unfold SpV.take
      rw [← hrest]
      rfl
    rw [e]
    refine wpIn_wide.2 ?_
    go_wp2_with fail
    refine calmR_ret ?_
    refine ⟨by simp, .inl ⟨_, _, rfl, run_takeDeferred hK, ?_⟩⟩
    refine ⟨.tuple #[.int .i64 (x.1 : Nat), .int .i64 0], by simp [results, Try.results13, go_sem, c0, c1], ?_⟩
    exact ⟨rfl, hsp2, hf3⟩
theorem NoSp.keepF {p : Value} {w w' : World} (h : NoSp p w) (g : Frm (fun _ => False) w w') : NoSp p w' := by
  rcases h with h | ⟨b, h, c⟩
  · exact .inl h
  · exact .inr ⟨b, h, g.cellF c⟩
set_option maxRecDepth 100000 in
set_option maxHeartbeats 1000000 in
theorem sptake_no (p : Option Addr) (w : World) (h : NoSp (.pointer p) w) :
    Calls Try.prog 13 #[.pointer p] w fun e w' => e = .returned (.tuple #[.int .i64 0, .int .i64 1]) ∧ Frm (fun _ => False) w w' := by
  have HM := Lib.hid (fun W (gW : Frm (fun _ => False) w W) => spmade_no (.pointer p) W (h.keepF gW))
  have g3 : Frm (fun _ => False) w (((w.alloc (.cells #[.pointer p] 26)).alloc (.cells #[.int .i64 0] 3)).alloc (.cells #[.int .i64 0] 27)) := (((Frm.refl _ w).alloc _).alloc _).alloc _
  have HM3 := Lib.hid (HM.out _ g3)
  clear h g3
  go_enter Try.func13, Try.ntmps13
  go_wp2_with fail
  refine HM3.out.mono ?_
  rintro e w1 ⟨rfl, rfl⟩
  clear HM HM3
  go_wp2_with fail
  have d0 : (((w.alloc (.cells #[.pointer p] 26)).alloc (.cells #[.int .i64 0] 3)).alloc (.cells #[.int .i64 1] 27)).cell? ⟨w.heap.size + 1, 0, none⟩ = some (.int .i64 0) := by
    have := ((Blk.alloc (w.alloc (.cells #[.pointer p] 26)) 3 #[.int .i64 0]).old (.cells #[.int .i64 1] 27)).cell 0 rfl
    simpa using this
  have d1 : (((w.alloc (.cells #[.pointer p] 26)).alloc (.cells #[.int .i64 0] 3)).alloc (.cells #[.int .i64 1] 27)).cell? ⟨w.heap.size + 1 + 1, 0, none⟩ = some (.int .i64 1) := by
    have := (Blk.alloc ((w.alloc (.cells #[.pointer p] 26)).alloc (.cells #[.int .i64 0] 3)) 27 #[.int .i64 1]).cell 0 rfl
    simpa using this
  exact bodyPost_ret (v := .tuple #[.int .i64 0, .int .i64 1]) (by simp [results, Try.results13, go_sem, d0, d1]) rfl ⟨rfl, (((Frm.refl _ w).alloc _).alloc _).alloc _⟩
end Go.Proofs.Ytdhnidmeeocajaa
