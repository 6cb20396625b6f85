/- What Len answers; an index that is none. No condition. -/
import Derived.Test.YtmdnacboenehkaaHashI
namespace Go.Proofs.Ytmdnacboenehkaa
open Go.RowKit Go.Shelf
attribute [local go_sem] Oper.semAt_some

theorem Blk.turned {W W' : World} {b : Nat} {t : TypeId} {cs : Array Value} {row : Option Nat} (h : Blk W b t cs) (hg : W.grownBy W' row) (hr : ∀ r, row = some r → ∃ o : Obj, W.heap[r]? = some o ∧ o.isCells = false) : Blk W' b t cs := by
  refine (hg.block b h.lt fun e => ?_).trans h
  obtain ⟨o, ho, hc⟩ := hr b e.symm
  rw [h] at ho
  cases ho
  cases hc
theorem Frm.turned {X : Nat → Prop} {w W W' : World} {B : Nat} {row : Option Nat} (h : Frm X w W) (hB : w.heap.size ≤ B) (hg : W.grownBy W' row) (hr : ∀ r, row = some r → B ≤ r ∧ ∃ o : Obj, W.heap[r]? = some o ∧ o.isCells = false) : Frm X w W' :=
  h.grown hg fun k hk e => by have := (hr k e).1; omega
theorem kept.trans {n : Nat} {A B C : World} (h : kept n A B) (k : kept n B C) : kept n A C := fun q hq => (k q hq).trans (h q hq)
theorem kept.put {n : Nat} {w : World} (hn : n ≤ w.heap.size) (W : World) (l : Nat) (o o' : Obj) (hl : w.heap.size ≤ l) (_ : W.heap[l]? = some o) (_ : o.isCells = false) (_ : o.isWalk = false) : kept n W (W.putObj l o') :=
  fun q hq => World.putObj_heap_other (by omega)
/-- All, of whatever is handed out. -/
def Gives (p : Option Addr) (n0 : Nat) (T : List (Nat × Nat)) (Sp : List (Nat × Nat) → Prop) (w : World) : Prop :=
  ∀ Bn W, Blk W Bn 28 #[.pointer p] → Frm (fun _ => False) w W → SeqStopsK Fence.wide 8 Try.prog 26 #[.pointer (some ⟨Bn, 0, none⟩)] aEnc (kept n0) (fun xs => xs = T) Sp T.length W
theorem gives_index (b n0 : Nat) (L : Nat → List Nat) (fp : Nat → Prop) (w : World) (h : Hx w b L fp) (hn : ∀ k, fp k → k < n0) (hl : ∀ i, i < 16 → (L i).length ≤ 1000000) : Gives (some ⟨b, 0, none⟩) n0 (allF L 16) (part L) w := by
  intro Bn W hB hf
  obtain ⟨_, _, v, hv, h4⟩ := h.keepF hf
  exact all_stops Bn b n0 L v W hB hv (fun i hi g hg => hn g (h4 i hi g hg)) hl

structure LenI (w : World) (pre : List (Nat × Nat)) (W : World) : Prop where
  n : Blk W w.heap.size 3 #[.int .i64 pre.length]
  frm : Frm (fun _ => False) w W
theorem LenI.own (w : World) (B : Nat) (hB : w.heap.size ≤ B) : OwnFrom B (LenI w) := fun _ _ _ _ h hg hr =>
  ⟨h.n.turned hg fun r e => (hr r e).2, h.frm.turned hB hg hr⟩

set_option maxRecDepth 100000 in
set_option maxHeartbeats 1000000 in
theorem len_in (p : Option Addr) (n0 : Nat) (T : List (Nat × Nat)) (Sp : List (Nat × Nat) → Prop) (w : World) (hg : Gives p n0 T Sp w) (hn : n0 ≤ w.heap.size) (hT : T.length ≤ 1000000000) :
    CallsIn Fence.wide 9 Try.prog 13 #[.pointer p] w fun r w' => r = .returned (.int .i64 T.length) ∧ Frm (fun _ => False) w w' := by
  refine callsIn_of_wp_marks Try.func13 rfl trivial ?_ rfl
  simp only [Try.ntmps13, List.size_toArray, List.length_cons, List.length_nil, Nat.reduceAdd, Nat.reduceSub, Array.replicate_succ, Array.replicate_zero, List.push_toArray, List.append_toArray, List.nil_append, List.cons_append]
  gi_wp2_with (refine ⟨trivial, ?_⟩; gi_at_call 15; refine (callsIn_wide.2 (all_any p _)).mono ?_; rintro e w' ⟨rfl, rfl⟩)
  have hBn : Blk ((w.alloc (.cells #[.int .i64 0] 3)).alloc (.cells #[.pointer p] 28)) (w.heap.size + 1) 28 #[.pointer p] := by
    have := Blk.alloc (w.alloc (.cells #[.int .i64 0] 3)) 28 #[.pointer p]
    simpa using this
  have hI0 : LenI w [] ((w.alloc (.cells #[.int .i64 0] 3)).alloc (.cells #[.pointer p] 28)) := ⟨(Blk.alloc w _ _).old _, ((Frm.refl _ w).alloc _).alloc _⟩
  refine wpIn_rangeFunc_ownF rfl (by omega) (gf := 26) (lb := #[.pointer (some ⟨w.heap.size + 1, 0, none⟩)]) rfl trivial (enters_of Try.func26 (by kernel_rfl) rfl)
    (hg _ _ hBn hI0.frm) kept.trans (kept.put (by simp; omega)) (Below.refl _ _) (fun _ => rfl)
    (LenI w) (fun _ _ _ => False) (LenI.own w _ (by simp; omega)) (fun _ _ _ _ _ h _ _ => h) hI0
    (fun x => { tmps := #[.pointer p, undef, .int .i64 0, .pointer (some ⟨w.heap.size, 0, none⟩), .pointer p, .func (.func 26) #[] #[.pointer (some ⟨w.heap.size + 1, 0, none⟩)], .int .u8 x.1, .int .u32 x.2, undef, undef, undef], defers := [] }) ?assign ?body ?done ?stop
  case assign =>
    intro l0 x W K hK
    gi_wp2
    simp [aEnc]
    exact hK
  case body =>
    rintro l0 pre x W hv hlen
    have c0 : W.cell? ⟨w.heap.size, 0, none⟩ = some (.int .i64 pre.length) := hv.n.cell 0 rfl
    have f0 := hv.n.free 0
    have hw : (pre.length : Int) ≤ 1000000000 := by omega
    gi_wp2
    refine ⟨KeepsOthers.setCell _ _ _, fun q hq => Below.heap_setCell _ _ _ _ (by simp; omega), ?_, hv.frm.setCell (p := ⟨w.heap.size, 0, none⟩) (fun h => absurd h (by simp)) _⟩
    have e : (((pre ++ [x]).length : Nat) : Int) = (pre.length : Int) + 1 := by simp
    rw [e]
    exact hv.n.set 0 _
  case done =>
    rintro D xs W hD rfl hv hK
    have c0 : W.cell? ⟨w.heap.size, 0, none⟩ = some (.int .i64 xs.length) := hv.n.cell 0 rfl
    have hD2 : w.heap.size ≤ D := by simp at hD; omega
    gi_wp2
    refine ⟨by simp, .inl ⟨_, _, rfl, run_takeDeferred hK, ?_⟩⟩
    exact ⟨_, results_tmp rfl _ _ _, rfl, hv.frm.grown (grownBy_putObj' W D (.deferred none)) (fun k hk e => by cases e; omega)⟩
  case stop =>
    rintro D c pre W _ _ h _
    exact h.elim

theorem len_any (b : Nat) (L : Nat → List Nat) (fp : Nat → Prop) (w : World) (h : Hx w b L fp) (hl : ∀ i, i < 16 → (L i).length ≤ 1000000) (hT : (allF L 16).length ≤ 1000000000) :
    Calls Try.prog 13 #[.pointer (some ⟨b, 0, none⟩)] w fun r w' => r = .returned (.int .i64 (allF L 16).length) ∧ Frm (fun _ => False) w w' :=
  callsIn_wide.1 (len_in _ w.heap.size _ _ w (gives_index b w.heap.size L fp w h h.1 hl) (Nat.le_refl _) hT)

set_option maxRecDepth 100000 in
set_option maxHeartbeats 1000000 in
theorem none_stops {α : Type} (encs : α → Array Value) (p : Option Addr) (Bn n0 : Nat) (w : World) (hB : Blk w Bn 28 #[.pointer p]) (hm : ∀ W, Frm (fun _ => False) w W → Calls Try.prog 27 #[.pointer p] W fun e w' => e = .returned (.bool false) ∧ W = w') :
    SeqStopsK Fence.wide 8 Try.prog 26 #[.pointer (some ⟨Bn, 0, none⟩)] encs (kept n0) (fun xs => xs = []) (fun _ => False) 0 w := fun l0 J Jx W hW hJ hJx hY h0 => by
  have hBW : Blk W Bn 28 #[.pointer p] := (hW.block Bn hB.lt).trans hB
  have c0 := hBW.cell 0 rfl
  have hmW := Lib.hid (hm W (Frm.ofBelow0 hW))
  clear hY hm hJ hJx
  refine callsIn_of_wp Try.func26 rfl trivial ?_ rfl
  simp only [Try.ntmps26, List.size_toArray, List.length_cons, List.length_nil, Nat.reduceAdd, Nat.reduceSub, Array.replicate_succ, Array.replicate_zero, List.push_toArray, List.append_toArray, List.nil_append, List.cons_append]
  gi_wp2_with (refine ⟨trivial, ?_⟩; gi_at_call 27; refine (callsIn_wide.2 hmW.out).mono ?_; rintro e w' ⟨rfl, rfl⟩)
  refine bodyPost_ret (results_none rfl _ _ _) rfl ?_
  exact ⟨⟨_, rfl⟩, .inl ⟨[], rfl, h0⟩⟩
theorem gives_none (p : Option Addr) (n0 : Nat) (w : World) (hm : ∀ W, Frm (fun _ => False) w W → Calls Try.prog 27 #[.pointer p] W fun e w' => e = .returned (.bool false) ∧ W = w') : Gives p n0 [] (fun _ => False) w :=
  fun Bn W hB hf => none_stops aEnc p Bn n0 W hB fun W' hf' => hm W' (hf.trans hf')
theorem len_none (p : Option Addr) (w : World) (hm : ∀ W, Frm (fun _ => False) w W → Calls Try.prog 27 #[.pointer p] W fun e w' => e = .returned (.bool false) ∧ W = w') :
    Calls Try.prog 13 #[.pointer p] w fun r w' => r = .returned (.int .i64 0) ∧ Frm (fun _ => False) w w' :=
  callsIn_wide.1 (len_in p w.heap.size [] _ w (gives_none p w.heap.size w hm) (Nat.le_refl _) (by simp))

set_option maxHeartbeats 400000 in
theorem add_none (p : Option Addr) (s : Value) (id : Nat) (w : World) (hm : Calls Try.prog 27 #[.pointer p] w fun e w' => e = .returned (.bool false) ∧ w = w') :
    Calls Try.prog 17 #[.pointer p, s, .int .u32 id] w fun e w' => e = .returned (.int .i64 1) ∧ w = w' := by
  have HM := Lib.hid hm
  clear hm
  go_enter Try.func17, Try.ntmps17
  go_wp2_with fail
  refine HM.out.mono ?_
  rintro e w1 ⟨rfl, rfl⟩
  go_wp2_with fail
  go_ret
  exact ⟨rfl, rfl⟩
set_option maxHeartbeats 400000 in
theorem drop_none (p : Option Addr) (s : Value) (id : Nat) (w : World) (hm : Calls Try.prog 27 #[.pointer p] w fun e w' => e = .returned (.bool false) ∧ w = w') :
    Calls Try.prog 19 #[.pointer p, s, .int .u32 id] w fun e w' => e = .returned (.int .i64 1) ∧ w = w' := by
  have HM := Lib.hid hm
  clear hm
  go_enter Try.func19, Try.ntmps19
  go_wp2_with fail
  refine HM.out.mono ?_
  rintro e w1 ⟨rfl, rfl⟩
  go_wp2_with fail
  go_ret
  exact ⟨rfl, rfl⟩
set_option maxHeartbeats 400000 in
theorem find_none (p : Option Addr) (s : Value) (w : World) (hm : Calls Try.prog 27 #[.pointer p] w fun e w' => e = .returned (.bool false) ∧ w = w') :
    Calls Try.prog 24 #[.pointer p, s] w (NewIds [] w) := by
  have HM := Lib.hid hm
  clear hm
  go_enter Try.func24, Try.ntmps24
  go_wp2_with fail
  refine HM.out.mono ?_
  rintro e w1 ⟨rfl, rfl⟩
  go_wp2_with fail
  go_ret
  exact ⟨.slice none 0 0, rfl, Own.nil_ _, Frm.refl _ _, fun g hg => by cases hg⟩

set_option maxRecDepth 100000 in
set_option maxHeartbeats 1000000 in
/-- Both are the same ids. -/
theorem finds_yes (x s vw : Value) (l : List Nat) (w : World) (hf : Calls Try.prog 24 #[x, s] w (NewIds l w)) (hw : Ids w vw l) :
    Calls Try.prog 18 #[x, s, vw] w fun e w' => e = .returned (.bool true) ∧ Frm (fun _ => False) w w' := by
  have HF := Lib.hid hf
  clear hf
  obtain ⟨a, cap, rfl, hc1, hc2⟩ := hw.slice
  unfold maxLen at hc2
  go_enter Try.func18, Try.ntmps18
  go_wp2_with fail
  refine HF.out.mono ?_
  rintro e w1 ⟨v', rfl, g1, g2, g3⟩
  obtain ⟨a', cap', rfl, hc1', hc2'⟩ := Row.slice g1
  have i2 := hw.keepF g2
  have i1 := g1.ids
  unfold maxLen at hc2'
  clear g1 g3
  go_wp2_with fail
  go_loopw [8] (fun i wr => ∃ k : Nat, k ≤ l.length ∧ i = .int .i64 k ∧ Frm (fun _ => False) w1 wr) (fun i _ => l.length - (intOf i).toNat)
  case atStart => exact ⟨0, Nat.zero_le _, rfl, Frm.refl _ _⟩
  case round =>
    obtain ⟨k, hk, rfl, g4⟩ := hrel
    by_cases hlt : k < l.length
    · obtain ⟨b1, o1, rfl, _, c1⟩ := (i1.keepF g4).at k hlt
      obtain ⟨b2, o2, rfl, _, c2⟩ := (i2.keepF g4).at k hlt
      have hq : ((l[k] : Int) != (l[k] : Int)) = false := bne_self_eq_false _
      have hki : (k : Int) < (l.length : Int) := by omega
      have hk0 : (0 : Int) ≤ (k : Int) := by omega
      go_wp2_with fail
      go_quiet (fail)
      go_wp2_with fail
      go_roundw
      case rel => exact ⟨k + 1, by omega, by go_num, g4.drewN _⟩
      case measure => simp [intOf]; omega
    · obtain rfl : k = l.length := by omega
      go_wp2_with fail
      go_ret
      exact ⟨rfl, g2.trans g4⟩
end Go.Proofs.Ytmdnacboenehkaa
