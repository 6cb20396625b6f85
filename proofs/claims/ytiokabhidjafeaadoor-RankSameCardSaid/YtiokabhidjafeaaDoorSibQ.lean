/- What Join answers. Of any two registers. No condition but that they aren't too long. -/
import Derived.Test.YtiokabhidjafeaaDoorSibP
import Derived.Test.YtiokabhidjafeaaDoorSibO
import Derived.Test.YtiokabhidjafeaaDoorRkM
namespace Go.Proofs.YtiokabhidjafeaaDoor
open Go.RowKit

/-- What stays of two registers' siblings. -/
def stayL (f g : Nat → Nat) (l m : List SibI) : List SibI := l.filter (fun x => decide (x.d ∈ m.map SibI.d) || !has8 g x.r x.n) ++ m.filter (fun x => !has8 f x.r x.n)
/-- What a join answers: an error's number and nothing, or the contexts' join, and what stays, in order. -/
def JoinIs (f g : Nat → Nat) (l m : List SibI) (f' : Nat → Nat) (l' : List SibI) (e : Nat) : Prop :=
  (okR f l && okR g m) = false ∧ e = 4 ∧ l' = [] ∧ f' = (fun _ => 0) ∨
  (okR f l && okR g m) = true ∧ 8 < (stayL f g l m).length ∧ e = 7 ∧ l' = [] ∧ f' = (fun _ => 0) ∨
  (okR f l && okR g m) = true ∧ (stayL f g l m).length ≤ 8 ∧ e = 0 ∧ f' = jn8 f g ∧ l'.Perm (stayL f g l m) ∧ inOrder l'
def JoinTo (f g : Nat → Nat) (l m : List SibI) (w : World) (e : Ending) (w' : World) : Prop :=
  ∃ v' f' l' e0, e = .returned (.tuple #[rg f' v', .int .i64 (e0 : Nat)]) ∧ OwnL w' v' l' ∧ (∀ q, v'.ownBlock = some q → w.heap.size ≤ q) ∧ Frm (fun _ => False) w w' ∧ JoinIs f g l m f' l' e0

/-- Sorted where they lie: of at most twelve. -/
theorem ssort_own (a : Option Addr) (cp : Nat) (l : List SibI) (w : World) (o : OwnL w (.slice a l.length cp) l) (h12 : l.length ≤ 12) :
    Calls Tryd.prog 43 #[.slice a l.length cp, .func (.func 44) #[] #[]] w fun e w' => e = .returned (.tuple #[]) ∧
      ∃ l', l'.Perm l ∧ inOrder l' ∧ OwnL w' (.slice a l.length cp) l' ∧ Frm (fun q => (Value.slice a l.length cp).ownBlock = some q) w w' := by
  cases l with
  | nil =>
    rcases o.2 with ⟨e, _⟩ | ⟨g', cap', e, _⟩
    · cases e
      exact (ssort_nil _ w).mono fun e w' h => ⟨h.1, [], List.Perm.refl _, (fun i j hi => by cases hi), h.2 ▸ o, h.2 ▸ Frm.refl _ _⟩
    · cases e
      refine (ssort_any g' cp [] w o (by omega)).mono fun e w' h => ?_
      obtain ⟨he, l', p1, p2, p3, p4⟩ := h
      exact ⟨he, l', p1, p2, p3, p4.mono fun q _ hq => by subst hq; rfl⟩
  | cons x l =>
    rcases o.2 with ⟨e, _⟩ | ⟨g', cap', e, _⟩
    · cases e
    · cases e
      refine (ssort_any g' cp (x :: l) w o h12).mono fun e w' h => ?_
      obtain ⟨he, l', p1, p2, p3, p4⟩ := h
      exact ⟨he, l', p1, p2, p3, p4.mono fun q _ hq => by subst hq; rfl⟩

set_option maxRecDepth 100000 in
set_option maxHeartbeats 8000000 in
theorem sjoin_any (f g : Nat → Nat) (v1 v2 : Value) (l m : List SibI) (w : World) (hf : Fit8 f) (hg : Fit8 g) (h1 : SL w v1 l) (h2 : SL w v2 m) (hb1 : l.length ≤ 400000) (hb2 : m.length ≤ 400000) :
    Calls Tryd.prog 20 #[rg f v1, rg g v2] w (JoinTo f g l m w) := by
  obtain ⟨a1, cap1, rfl, hc1, hc2⟩ := h1.slice
  obtain ⟨a2, cap2, rfl, hd1, hd2⟩ := h2.slice
  have g0 : Frm (fun _ => False) w (((w.alloc (.cells (rgc f (.slice a1 l.length cap1)) 27)).alloc (.cells (rgc g (.slice a2 m.length cap2)) 27)).alloc (.cells rz 27)) := (((Frm.refl _ w).alloc _).alloc _).alloc _
  have b0 : Blk (((w.alloc (.cells (rgc f (.slice a1 l.length cap1)) 27)).alloc (.cells (rgc g (.slice a2 m.length cap2)) 27)).alloc (.cells rz 27)) w.heap.size 27 (rgc f (.slice a1 l.length cap1)) := ((Blk.alloc w _ _).old _).old _
  have b1 : Blk (((w.alloc (.cells (rgc f (.slice a1 l.length cap1)) 27)).alloc (.cells (rgc g (.slice a2 m.length cap2)) 27)).alloc (.cells rz 27)) (w.heap.size + 1) 27 (rgc g (.slice a2 m.length cap2)) := (Blk.at1 w _ _ _).old _
  have b2 : Blk (((w.alloc (.cells (rgc f (.slice a1 l.length cap1)) 27)).alloc (.cells (rgc g (.slice a2 m.length cap2)) 27)).alloc (.cells rz 27)) (w.heap.size + 1 + 1) 27 rz := Blk.at2 w _ _ _ _
  go_enter Tryd.func20, Tryd.ntmps20
  go_upto_region 1 with fail
  generalize ((w.alloc (.cells (rgc f (.slice a1 l.length cap1)) 27)).alloc (.cells (rgc g (.slice a2 m.length cap2)) 27)).alloc (.cells rz 27) = w0 at *
  obtain ⟨N, hN⟩ : ∃ N, w.heap.size = N := ⟨_, rfl⟩
  have HN := Lib.hid hN
  rw [hN] at b0 b1 b2 ⊢
  clear hN
  have lA := load_reg b0
  go_wp2_with ((with_reducible refine wpl_load rfl _ rfl ?_ lA ?_); (focus rfl))
  refine (check_any f _ l w0 hf (h1.keepF g0) (by omega)).mono ?_
  rintro e w1 ⟨rfl, g1⟩
  clear lA
  have b0 := b0.keep g1 (fun h => h)
  have b1 := b1.keep g1 (fun h => h)
  have b2 := b2.keep g1 (fun h => h)
  have k1 := g0.trans g1
  clear g0 g1
  cases hok1 : okR f l with
  | false =>
    have hck : chkS f l = 4 := by unfold chkS; rw [hok1]; rfl
    rw [hck]
    clear hck
    go_wp2_with ((with_reducible refine wpl_store_blk rfl 27 _ _ rfl (N + 1 + 1) rz rz ?_ ?_ b2 rfl ?_ ?_ ?_); (focus rfl); (focus rfl); (focus (show _ = some 9; kernel_rfl)); (focus (simp [Value.oneCell'])); intro w5 e2 g5 z5; have c8 := e2.cell 8 rfl; have h2' := rcells (show Blk _ _ _ (rgc (fun _ => 0) (.slice none 0 0)) from e2))
    refine bodyPost_ret (v := .tuple #[rg (fun _ => 0) (.slice none 0 0), .int .i64 4]) (by simp [results, Tryd.results20, go_sem, h2', c8]) rfl ?_
    exact ⟨_, _, [], 4, rfl, OwnL.nil_ _, (fun g hg => by cases hg), k1.next g5 (fun k hk h => by have := HN.out; omega), .inl ⟨by rw [hok1]; rfl, rfl, rfl, rfl⟩⟩
  | true =>
    have hck : chkS f l = 0 := by unfold chkS; rw [hok1]; rfl
    rw [hck]
    clear hck
    have cB := rcells b1
    have cB8 := b1.cell 8 rfl
    go_wp2_with fail
    refine (check_any g _ m w1 hg (h2.keepF k1) (by omega)).mono ?_
    rintro e w2 ⟨rfl, g2⟩
    clear cB cB8
    have b0 := b0.keep g2 (fun h => h)
    have b1 := b1.keep g2 (fun h => h)
    have b2 := b2.keep g2 (fun h => h)
    have k2 := k1.trans g2
    clear k1 g2
    cases hok2 : okR g m with
    | false =>
      have hck : chkS g m = 4 := by unfold chkS; rw [hok2]; rfl
      rw [hck]
      clear hck
      go_wp2_with ((with_reducible refine wpl_store_blk rfl 27 _ _ rfl (N + 1 + 1) rz rz ?_ ?_ b2 rfl ?_ ?_ ?_); (focus rfl); (focus rfl); (focus (show _ = some 9; kernel_rfl)); (focus (simp [Value.oneCell'])); intro w5 e2 g5 z5; have c8 := e2.cell 8 rfl; have h2' := rcells (show Blk _ _ _ (rgc (fun _ => 0) (.slice none 0 0)) from e2))
      refine bodyPost_ret (v := .tuple #[rg (fun _ => 0) (.slice none 0 0), .int .i64 4]) (by simp [results, Tryd.results20, go_sem, h2', c8]) rfl ?_
      exact ⟨_, _, [], 4, rfl, OwnL.nil_ _, (fun g hg => by cases hg), k2.next g5 (fun k hk h => by have := HN.out; omega), .inl ⟨by rw [hok2, Bool.and_false], rfl, rfl, rfl⟩⟩
    | true =>
      have hck : chkS g m = 0 := by unfold chkS; rw [hok2]; rfl
      rw [hck]
      clear hck
      have lB := load_reg b1
      have HDT := Lib.hid (fun W (hW : Frm (fun _ => False) w W) => dots_any g _ m W (h2.keepF hW) (by omega))
      go_upto_region 3 with fail
      go_wp2_with ((with_reducible refine wpl_load rfl _ rfl ?_ lB ?_); (focus rfl))
      refine (HDT.out w2 k2).mono ?_
      rintro e w3 ⟨bm, rfl, hbm, dm, g3⟩
      clear lB HDT
      have b0 := b0.keep g3 (fun h => h)
      have b1 := b1.keep g3 (fun h => h)
      have b2 := b2.keep g3 (fun h => h)
      have hlt2 := b2.lt
      have k3 := k2.trans g3
      have hs23 := k2.size
      clear k2 g3
      have c6 := Blk.alloc w3 97 #[.map (some bm)]
      have g4 : Frm (fun _ => False) w3 (w3.alloc (.cells #[.map (some bm)] 97)) := (Frm.refl _ w3).alloc _
      have b0 := b0.keep g4 (fun h => h)
      have b1 := b1.keep g4 (fun h => h)
      have b2 := b2.keep g4 (fun h => h)
      have dm := dm.keep g4 (fun h => h)
      have k4 := k3.trans g4
      go_upto_region 4 with fail
      generalize hw4 : w3.alloc (.cells #[.map (some bm)] 97) = w4 at *
      clear hw4
      obtain ⟨M, hM⟩ : ∃ M, w3.heap.size = M := ⟨_, rfl⟩
      rw [hM] at c6 ⊢
      clear hM g4 k3
      have hw1 := fun (x : SibI) (W : World) (hW : Frm (fun _ => False) w4 W) => join1_any M bm (N + 1) g _ m x W (c6.keep hW (fun h => h)) (dm.keep hW (fun h => h)) (b1.keep hW (fun h => h))
      have HT1 := Lib.hid (those_any f _ l 41 #[.pointer (some ⟨M, 0, none⟩), .pointer (some ⟨N + 1, 0, none⟩)] (fun x => decide (x.d ∈ m.map SibI.d) || !has8 g x.r x.n) w4 (h1.keepF k4) (by omega) (enters_of Tryd.func41 (by kernel_rfl) rfl) hw1)
      have lA := load_reg b0
      have hst : stayL f g l m = l.filter (fun x => decide (x.d ∈ m.map SibI.d) || !has8 g x.r x.n) ++ m.filter (fun x => !has8 f x.r x.n) := rfl
      have hl1 : (l.filter (fun x => decide (x.d ∈ m.map SibI.d) || !has8 g x.r x.n)).length ≤ l.length := List.length_filter_le _ _
      generalize l.filter (fun x => decide (x.d ∈ m.map SibI.d) || !has8 g x.r x.n) = L1 at *
      clear hw1
      go_upto_region 5 with ((with_reducible refine wpl_load rfl _ rfl ?_ lA ?_); (focus rfl))
      refine HT1.out.mono ?_
      rintro e w5 ⟨v5, rfl, o5, g5, n5⟩
      obtain ⟨a5, cp5, rfl, _, _⟩ := Row.slice o5
      clear lA HT1 dm c6
      have b0 := b0.keep g5 (fun h => h)
      have b1 := b1.keep g5 (fun h => h)
      have hb24 : N + 1 + 1 < w4.heap.size := b2.lt
      have b2 := b2.keep g5 (fun h => h)
      have hs4 := k4.size
      have k5 := k4.trans g5
      have n5 : ∀ q, (Value.slice a5 L1.length cp5).ownBlock = some q → N + 3 ≤ q := fun q e => by have := n5 q e; omega
      clear k4 g5
      have hw2 := fun (x : SibI) (W : World) (hW : Frm (fun _ => False) w5 W) => join2_any N f _ x W (b0.keep hW (fun h => h))
      have HT2 := Lib.hid (those_any g _ m 42 #[.pointer (some ⟨N, 0, none⟩)] (fun x => !has8 f x.r x.n) w5 (h2.keepF k5) (by omega) (enters_of Tryd.func42 (by kernel_rfl) rfl) hw2)
      have lB := load_reg b1
      have hl2 : (m.filter (fun x => !has8 f x.r x.n)).length ≤ m.length := List.length_filter_le _ _
      generalize m.filter (fun x => !has8 f x.r x.n) = L2 at *
      clear hw2
      go_upto_region 5 with fail
      go_wp2_with ((with_reducible refine wpl_load rfl _ rfl ?_ lB ?_); (focus rfl))
      refine HT2.out.mono ?_
      rintro e w6 ⟨v6, rfl, o6, g6, n6⟩
      obtain ⟨a6, cp6, rfl, _, _⟩ := Row.slice o6
      clear lB HT2
      have b0 := b0.keep g6 (fun h => h)
      have b1 := b1.keep g6 (fun h => h)
      have b2 := b2.keep g6 (fun h => h)
      have hb26 : N + 1 + 1 < w6.heap.size := b2.lt
      have o5 := o5.keep g6 (fun _ _ h => h)
      have k6 := k5.trans g6
      have hs5 := k5.size
      have hs6 := k6.size
      clear k5 g6
      obtain ⟨v7, w7, hrun, o7, gr, nb⟩ := append_sibs w6 _ _ L1 L2 o5 o6.sl (by omega)
      rw [← hst] at o7
      have hX : Frm (fun q => (Value.slice a5 L1.length cp5).ownBlock = some q) w6 w7 := (Frm.refl _ w6).grown gr (fun k _ e => e)
      have b0 := b0.keep hX (fun e => by have := n5 _ e; omega)
      have b1 := b1.keep hX (fun e => by have := n5 _ e; omega)
      have b2 := b2.keep hX (fun e => by have := n5 _ e; omega)
      have k7 : Frm (fun _ => False) w w7 := k6.next hX (fun k hk e => by have := n5 k e; have := HN.out; omega)
      have n7 : ∀ q, v7.ownBlock = some q → N + 3 ≤ q := fun q e => (nb q e).elim (n5 q) (fun e => by omega)
      have HRUN := Lib.hid hrun
      obtain ⟨a7, cp7, rfl, _, _⟩ := Row.slice o7
      have HL := Lib.hid hl1
      clear hrun hX gr nb o5 o6 k6 n6 hst
      generalize hS : stayL f g l m = S7 at *
      have HS := Lib.hid hS
      clear hS
      go_upto_region 6 with (at_builtin; refine Lib.wpList_append_run _ rfl _ _ _ _ rfl _ _ rfl rfl _ _ HRUN.out ?_)
      by_cases h8 : S7.length ≤ 8
      · have h8i : ¬ ((8 : Int) < (S7.length : Int)) := by omega
        have H8 := Lib.hid (show S7.length ≤ 8 from h8)
        clear h8
        have HO := Lib.hid o7
        have HNN := Lib.hid n7
        clear o7 n7
        go_upto_region 8 with fail
        have o7 := HO.out
        have h8 := H8.out
        have hsort := ssort_own a7 cp7 S7 w7 o7 (by omega)
        clear o7 h8
        go_wp2_with fail
        refine hsort.mono ?_
        rintro e w8 ⟨rfl, l', hpm, hin, o8, g8⟩
        have n8 := HNN.out
        have b0 := b0.keep g8 (fun e => by have := n8 _ e; omega)
        have b1 := b1.keep g8 (fun e => by have := n8 _ e; omega)
        have b2 := b2.keep g8 (fun e => by have := n8 _ e; omega)
        have k8 : Frm (fun _ => False) w w8 := k7.next g8 (fun k hk e => by have := n8 k e; have := HN.out; omega)
        have HO8 := Lib.hid o8
        have HPM := Lib.hid hpm
        have HIN := Lib.hid hin
        clear hsort k7 g8 n8 o8 hpm hin
        have lA := load_ctx b0
        have lB := load_ctx b1
        go_wp2_with first | ((with_reducible refine wpl_load rfl _ rfl ?_ lA ?_); (focus rfl)) | ((with_reducible refine wpl_load rfl _ rfl ?_ lB ?_); (focus rfl))
        refine (join_any f g w8).mono ?_
        rintro e w9 ⟨rfl, g9⟩
        clear lA lB
        have b2 := b2.keep g9 (fun h => h)
        have o9 := HO8.out.keep g9 (fun _ _ h => h)
        have k9 := k8.trans g9
        clear k8 g9 b0 b1
        go_wp2_with ((with_reducible refine wpl_store_blk rfl 27 _ _ rfl (N + 1 + 1) (rgc (jn8 f g) (.slice a7 S7.length cp7)) rz ?_ ?_ b2 ?_ ?_ ?_ ?_); (focus rfl); (focus rfl); (focus rfl); (focus (show _ = some 9; kernel_rfl)); (focus (exact rg_one _ _ _ _)); intro wA eA gA zA; have c8 := eA.cell 8 rfl; have h2' := rcells eA)
        refine bodyPost_ret (v := .tuple #[rg (jn8 f g) (.slice a7 S7.length cp7), .int .i64 0]) (by simp [results, Tryd.results20, go_sem, h2', c8]) rfl ?_
        refine ⟨_, _, l', 0, rfl, o9.keep gA (fun q hq h => ?_), (fun q e => ?_), k9.next gA (fun k hk h => by have := HN.out; omega), .inr (.inr ⟨by rw [hok1, hok2]; rfl, by rw [HS.out]; exact H8.out, rfl, rfl, by rw [HS.out]; exact HPM.out, HIN.out⟩)⟩
        · have := HNN.out _ hq; omega
        · have := HNN.out _ e; have := HN.out; omega
      · have h8i : (8 : Int) < (S7.length : Int) := by omega
        have h8n : 8 < S7.length := by omega
        have H8 := Lib.hid h8n
        clear h8 h8n
        go_wp2_with ((with_reducible refine wpl_store_blk rfl 27 _ _ rfl (N + 1 + 1) rz rz ?_ ?_ b2 rfl ?_ ?_ ?_); (focus rfl); (focus rfl); (focus (show _ = some 9; kernel_rfl)); (focus (simp [Value.oneCell'])); intro w8 e2 g8 z8; have c8 := e2.cell 8 rfl; have h2' := rcells (show Blk _ _ _ (rgc (fun _ => 0) (.slice none 0 0)) from e2))
        refine bodyPost_ret (v := .tuple #[rg (fun _ => 0) (.slice none 0 0), .int .i64 7]) (by simp [results, Tryd.results20, go_sem, h2', c8]) rfl ?_
        exact ⟨_, _, [], 7, rfl, OwnL.nil_ _, (fun g hg => by cases hg), k7.next g8 (fun k hk h => by have := HN.out; omega), .inr (.inl ⟨by rw [hok1, hok2]; rfl, by rw [HS.out]; exact H8.out, rfl, rfl, rfl⟩)⟩
end Go.Proofs.YtiokabhidjafeaaDoor

