/- What Count and Take answer. No condition. -/
import Derived.Test.YtdhnidmeeocajaaSpD
namespace Go.Proofs.Ytdhnidmeeocajaa
open Go.RowKit Go.Shelf
attribute [local go_sem] Oper.semAt_some

structure CntI {S : SpV} (w : World) (pre : List (SE S)) (W : World) : Prop where
  n : Blk W w.heap.size 3 #[.int .i64 pre.length]
  frm : Frm (fun _ => False) w W
theorem CntI.own {S : SpV} (w : World) (B : Nat) (hB : w.heap.size ≤ B) : OwnFrom B (CntI (S := S) w) := fun _ _ _ _ h hg hr =>
  ⟨h.n.turned hg fun r e => (hr r e).2, h.frm.turned hB hg hr⟩
set_option maxRecDepth 100000 in
set_option maxHeartbeats 2000000 in
theorem spcount_in (s g : Nat) (S : SpV) (w : World) (h : SpM w s g S) :
    CallsIn Fence.wide 9 Try.prog 17 #[.pointer (some ⟨s, 0, none⟩)] w fun r w' => r = .returned (.int .i64 S.all.length) ∧ Frm (fun _ => False) w w' := by
  have hT : S.all.length ≤ 2048 := Nat.le_trans (S.done_len S.n) h.ok.hi
  have hsl := h.slt
  have hgl := h.lt
  refine callsIn_of_wp_marks Try.func17 rfl trivial ?_ rfl
  simp only [Try.ntmps17, List.size_toArray, List.length_cons, List.length_nil, Nat.reduceAdd, Nat.reduceSub, Array.replicate_succ, Array.replicate_zero, List.push_toArray, List.append_toArray, List.nil_append, List.cons_append]
  gi_wp2_with (refine ⟨trivial, ?_⟩; gi_at_call 18; refine (callsIn_wide.2 (spall_any _ _)).mono ?_; rintro e w' ⟨rfl, rfl⟩)
  have hBn : Blk ((w.alloc (.cells #[.int .i64 0] 3)).alloc (.cells #[.pointer (some ⟨s, 0, none⟩)] 26)) (w.heap.size + 1) 26 #[.pointer (some ⟨s, 0, none⟩)] := by
    have := Blk.alloc (w.alloc (.cells #[.int .i64 0] 3)) 26 #[.pointer (some ⟨s, 0, none⟩)]
    simpa using this
  have hI0 : CntI (S := S) w [] ((w.alloc (.cells #[.int .i64 0] 3)).alloc (.cells #[.pointer (some ⟨s, 0, none⟩)] 26)) := ⟨(Blk.alloc w _ _).old _, ((Frm.refl _ w).alloc _).alloc _⟩
  refine wpIn_rangeFunc_ownF rfl (by omega) (gf := 33) (lb := #[.pointer (some ⟨w.heap.size + 1, 0, none⟩)]) rfl trivial (enters_of Try.func33 (by kernel_rfl) rfl)
    (spall_stops _ s g S _ hBn (h.keepF hI0.frm)) keptX.trans (keptX.put (fun k hk => by
      have e : ((w.alloc (.cells #[.int .i64 0] 3)).alloc (.cells #[.pointer (some ⟨s, 0, none⟩)] 26)).heap.size = w.heap.size + 2 := by simp
      rw [e]
      rcases hk with rfl | rfl | rfl <;> omega)) (Below.refl _ _) (fun _ => rfl)
    (CntI w) (fun _ _ _ => False) (CntI.own w _ (by simp; omega)) (fun _ _ _ _ _ h _ _ => h) hI0
    ?a1 ?assign ?body ?done ?stop
  case assign =>
    intro l0 x W K hK
    gi_wp2
    exact hK
  case body =>
    rintro l0 pre x W hv hlen
    have c0 : W.cell? ⟨w.heap.size, 0, none⟩ = some (.int .i64 pre.length) := hv.n.cell 0 rfl
    have f0 := hv.n.free 0
    have hw : (pre.length : Int) ≤ 1000000000 := by omega
    gi_wp2
    refine ⟨KeepsOthers.setCell _ _ _, fun q hq => Below.heap_setCell _ _ _ _ (by rcases hq with rfl | rfl | rfl <;> (simp; try omega)), ?_, hv.frm.setCell (p := ⟨w.heap.size, 0, none⟩) (fun h => absurd h (by simp)) _⟩
    have e : (((pre ++ [x]).length : Nat) : Int) = (pre.length : Int) + 1 := by simp
    rw [e]
    exact hv.n.set 0 _
  case done =>
    rintro D xs W hD hxs hv hK
    have hxl : xs.length = S.all.length := by rw [← hxs, ns_length]
    have c0 : W.cell? ⟨w.heap.size, 0, none⟩ = some (.int .i64 S.all.length) := by rw [← hxl]; exact hv.n.cell 0 rfl
    have hD2 : w.heap.size ≤ D := by simp at hD; omega
    gi_wp2
    refine ⟨by simp, .inl ⟨_, _, rfl, run_takeDeferred hK, ?_⟩⟩
    exact ⟨_, results_tmp rfl _ _ _, rfl, hv.frm.grown (grownBy_putObj' W D (.deferred none)) (fun k hk e => by cases e; omega)⟩
  case stop =>
    rintro D c pre W _ _ h _
    exact h.elim
theorem spcount_any (s g : Nat) (S : SpV) (w : World) (h : SpM w s g S) :
    Calls Try.prog 17 #[.pointer (some ⟨s, 0, none⟩)] w fun r w' => r = .returned (.int .i64 S.all.length) ∧ Frm (fun _ => False) w w' :=
  callsIn_wide.1 (spcount_in s g S w h)
end Go.Proofs.Ytdhnidmeeocajaa
