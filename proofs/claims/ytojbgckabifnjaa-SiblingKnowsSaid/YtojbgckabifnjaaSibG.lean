/- What Write answers. Of any register, any dots, any value. No condition but that they aren't too long. -/
import Derived.Test.YtojbgckabifnjaaSibF
namespace Go.Proofs.Ytojbgckabifnjaa
open Go.RowKit

/-- A sibling of these, if there is one. -/
def mkSib (r n : Nat) (s : List UInt8) : SibI := if h : (r < 256 ∧ n < 4294967296 ∧ s.length ≤ 9223372036854775807) then ⟨r, n, s, h.1, h.2.1, h.2.2⟩ else default
theorem mkSib_eq {r n : Nat} {s : List UInt8} (h1 : r < 256) (h2 : n < 4294967296) (h3 : s.length ≤ 9223372036854775807) : mkSib r n s = ⟨r, n, s, h1, h2, h3⟩ := by
  unfold mkSib; rw [dif_pos ⟨h1, h2, h3⟩]
theorem nextS8_ok {f : Nat → Nat} {r : Nat} (h : (nextS8 f r).2.2 = 0) : r < 8 ∧ mx f 8 < 65535 ∧ nextS8 f r = (upd8 f r (mx f 8 + 1), (r, mx f 8 + 1), 0) := by
  unfold nextS8 at h ⊢
  by_cases h1 : 8 ≤ r
  · rw [if_pos h1] at h; cases h
  · rw [if_neg h1] at h ⊢
    by_cases h2 : 65535 ≤ mx f 8
    · rw [if_pos h2] at h; cases h
    · rw [if_neg h2] at h ⊢
      exact ⟨by omega, by omega, rfl⟩
theorem dropS_ok {f : Nat → Nat} {l : List SibI} {r : Nat} {over : List DotI} (h : (dropS f l r over).2.2.2 = 0) :
    okR f l = true ∧ r < 8 ∧ mx f 8 < 65535 ∧ dropS f l r over = (upd8 f r (mx f 8 + 1), l.filter (fun x => !decide (x.d ∈ over)), (r, mx f 8 + 1), 0) := by
  unfold dropS at h ⊢
  cases ho : okR f l with
  | false => rw [ho] at h; cases h
  | true =>
    rw [ho] at h
    simp only [if_true] at h ⊢
    by_cases h0 : (nextS8 f r).2.2 = 0
    · rw [if_pos h0]
      obtain ⟨h1, h2, h3⟩ := nextS8_ok h0
      exact ⟨trivial, h1, h2, by rw [h3]⟩
    · rw [if_neg h0] at h
      exact absurd h h0
theorem dropS_bad {f : Nat → Nat} {l : List SibI} {r : Nat} {over : List DotI} (h : (dropS f l r over).2.2.2 ≠ 0) : dropS f l r over = (fun _ => 0, [], (0, 0), (dropS f l r over).2.2.2) := by
  unfold dropS at h ⊢
  cases ho : okR f l with
  | false => rfl
  | true =>
    rw [ho] at h
    simp only [if_true] at h ⊢
    by_cases h0 : (nextS8 f r).2.2 = 0
    · rw [if_pos h0] at h; exact absurd rfl h
    · rw [if_neg h0]
/-- What Write answers. -/
def writeS (f : Nat → Nat) (l : List SibI) (r : Nat) (over : List DotI) (s : List UInt8) : (Nat → Nat) × List SibI × (Nat × Nat) × Nat :=
  if (dropS f l r over).2.2.2 = 0 then
    (if 8 ≤ (dropS f l r over).2.1.length then (fun _ => 0, [], (0, 0), 7)
     else ((dropS f l r over).1, (dropS f l r over).2.1 ++ [mkSib (dropS f l r over).2.2.1.1 (dropS f l r over).2.2.1.2 s], (dropS f l r over).2.2.1, 0))
  else (fun _ => 0, [], (0, 0), (dropS f l r over).2.2.2)

/-- A store of one slice at offset 8 of a register's block. -/
theorem wpl_store_L {ops : Array Oper} {rest : List Oper} {o : Oper} {a : Act} {w : World} {Q : Exit → Act → World → Prop} (hgd : o.guard = none) (x y : Operand) (ho : o.op = .store 37 x y)
    (b : Nat) (f : Nat → Nat) (v : Value) (av : Option Addr) (n c : Nat) (hx : a.eval x = .pointer (some ⟨b, 8, none⟩)) (hy : a.eval y = .slice av n c) (h : Blk w b 39 (rgc f v))
    (hK : ∀ w', Blk w' b 39 (rgc f (.slice av n c)) → Frm (· = b) w w' → w'.heap.size = w.heap.size → wpList Try.prog ops Q rest (a.put o.dst undef) w') : wpList Try.prog ops Q (o :: rest) a w := by
  have c0 := h.cell 8 rfl
  have f0 := h.free 8
  have a3 := Try.isAgg37
  have z3 := Try.sizeOf37
  refine wpList_plain hgd fun K hK' => ?_
  unfold Oper.wp execOp
  simp only [ho, hx, hy]
  go_simp
  refine hK' _ _ (hK _ ?_ ?_ ?_)
  · exact h.set 8 _
  · exact (Frm.refl (· = b) w).setCell (p := ⟨b, 8, none⟩) (fun _ => rfl) _
  · simp [World.setCell]

set_option maxRecDepth 100000 in
set_option maxHeartbeats 8000000 in
theorem swrite_any (f : Nat → Nat) (v : Value) (l : List SibI) (r : Nat) (vo : Value) (over : List DotI) (s : List UInt8) (w : World) (hf : Fit8 f) (h : SL w v l) (hb : l.length ≤ 1000000) (hr : r < 256) (ho : DL w vo over) (hs : s.length ≤ 9223372036854775807) :
    Calls Try.prog 18 #[rg f v, .int .u8 r, vo, .string (bs s)] w (RegTo (writeS f l r over s) w) := by
  have HD := Lib.hid (fun W (hW : Frm (fun _ => False) w W) => drop_any f v l r vo over W hf (h.keepF hW) hb hr (ho.keepF hW))
  have hgood : (dropS f l r over).2.2.2 = 0 → (dropS f l r over).2.2.1.1 < 256 ∧ (dropS f l r over).2.2.1.2 < 4294967296 := fun h0 => by
    obtain ⟨_, h1, h2, h3⟩ := dropS_ok h0
    rw [h3]
    exact ⟨hr, by simp only; omega⟩
  have hbad := fun h0 => dropS_bad (f := f) (l := l) (r := r) (over := over) h0
  have HW := Lib.hid (show writeS f l r over s = if (dropS f l r over).2.2.2 = 0 then
    (if 8 ≤ (dropS f l r over).2.1.length then (fun _ => 0, [], (0, 0), 7)
     else ((dropS f l r over).1, (dropS f l r over).2.1 ++ [mkSib (dropS f l r over).2.2.1.1 (dropS f l r over).2.2.1.2 s], (dropS f l r over).2.2.1, 0))
  else (fun _ => 0, [], (0, 0), (dropS f l r over).2.2.2) from rfl)
  generalize writeS f l r over s = T at *
  generalize dropS f l r over = D at *
  obtain ⟨vn, l2, ⟨p, q⟩, e0⟩ := D
  simp only at hgood hbad HW
  have HG := Lib.hid hgood
  have HB := Lib.hid hbad
  clear hgood hbad hf hb hr
  obtain ⟨ao, capo, rfl, ho1, ho2⟩ := ho.slice
  have g0 : Frm (fun _ => False) w (((w.alloc (.cells (rgc f v) 39)).alloc (.cells rz 39)).alloc (.cells dz 27)) := (((Frm.refl _ w).alloc _).alloc _).alloc _
  have b0 : Blk (((w.alloc (.cells (rgc f v) 39)).alloc (.cells rz 39)).alloc (.cells dz 27)) w.heap.size 39 (rgc f v) := ((Blk.alloc w _ _).old _).old _
  have b2 : Blk (((w.alloc (.cells (rgc f v) 39)).alloc (.cells rz 39)).alloc (.cells dz 27)) (w.heap.size + 1) 39 rz := (Blk.at1 w _ _ _).old _
  have b3 : Blk (((w.alloc (.cells (rgc f v) 39)).alloc (.cells rz 39)).alloc (.cells dz 27)) (w.heap.size + 1 + 1) 27 dz := Blk.at2 w _ _ _ _
  go_enter Try.func18, Try.ntmps18
  go_upto_region 1 with fail
  generalize ((w.alloc (.cells (rgc f v) 39)).alloc (.cells rz 39)).alloc (.cells dz 27) = w0 at *
  obtain ⟨N, hN⟩ : ∃ N, w.heap.size = N := ⟨_, rfl⟩
  have HN := Lib.hid hN
  rw [hN] at b0 b2 b3 ⊢
  clear hN
  have lR := load_reg b0
  go_wp2_with ((with_reducible refine wpl_load rfl _ rfl ?_ lR ?_); (focus rfl))
  refine (HD.out _ g0).mono ?_
  rintro e w2 ⟨v2, rfl, o2, n2, g2⟩
  simp only at o2
  obtain ⟨a2, c2, rfl, hc2, hc3⟩ := Row.slice o2
  have n2 : ∀ g, (Value.slice a2 l2.length c2).ownBlock = some g → N + 3 ≤ g := fun g e => by have h1 := n2 g e; have h2 := b3.lt; omega
  have b2 := b2.keep g2 (fun h => h)
  have b3 := b3.keep g2 (fun h => h)
  have k2 := g0.trans g2
  clear lR HD b0 g0 g2 h ho
  have n7 : Blk ((w2.alloc (.cells rz 39)).alloc (.cells dz 27)) w2.heap.size 39 rz := (Blk.alloc w2 _ _).old _
  have n8 : Blk ((w2.alloc (.cells rz 39)).alloc (.cells dz 27)) (w2.heap.size + 1) 27 dz := Blk.at1 w2 _ _ _
  have m1 : Frm (fun _ => False) w2 ((w2.alloc (.cells rz 39)).alloc (.cells dz 27)) := ((Frm.refl _ w2).alloc _).alloc _
  dsimp only
  go_upto_region 2 with (first
    | ((with_reducible refine wpl_store_blk rfl 39 _ _ rfl w2.heap.size (rgc vn (.slice a2 l2.length c2)) rz ?_ ?_ n7 rfl ?_ ?_ ?_); (focus rfl); (focus rfl); (focus (show _ = some 9; kernel_rfl)); (focus (exact rg_one _ _ _ _)); intro w11 e7 g3 z2; have m8 := n8.keep g3 (by omega); have m2 := m1.next (X := fun _ => False) g3 (fun k hk h => by omega))
    | ((with_reducible refine wpl_store_dot rfl _ _ rfl (w2.heap.size + 1) p q dz ?_ ?_ m8 rfl ?_); (focus rfl); (focus rfl); intro w4 e8 g4 z3; have e7' := e7.keep g4 (by omega); have m3 := m2.next (X := fun _ => False) g4 (fun k hk h => by omega)))
  have hb3 := b3.lt
  have hob := Row.blk o2
  have b2 := b2.keep m3 (fun h => h)
  have b3 := b3.keep m3 (fun h => h)
  have o4 := o2.keep m3 (fun _ _ h => h)
  have k3 := k2.trans m3
  have e8lt := e8.lt
  obtain ⟨B, hB⟩ : ∃ B, w2.heap.size = B := ⟨_, rfl⟩
  rw [hB] at e7' e8 e8lt hb3 hob ⊢
  have hNB : N + 3 ≤ B := by omega
  clear n7 n8 m1 e7 g3 z2 m8 m2 g4 z3 m3 hB k2 o2 hb3
  have s8 := e7'.cell 8 rfl
  by_cases h0 : e0 = 0
  · subst h0
    obtain ⟨hp, hq⟩ := HG.out rfl
    by_cases h8 : 8 ≤ l2.length
    · have hTe : T = (fun _ => 0, [], (0, 0), 7) := by rw [HW.out, if_pos rfl, if_pos h8]
      subst hTe
      have h8i : (8 : Int) ≤ (l2.length : Int) := by omega
      clear h8
      go_wp2_with (first
        | ((with_reducible refine wpl_store_blk rfl 39 _ _ rfl (N + 1) rz rz ?_ ?_ b2 rfl ?_ ?_ ?_); (focus rfl); (focus rfl); (focus (show _ = some 9; kernel_rfl)); (focus (simp [Value.oneCell'])); intro w5 e2 g5 z5; have d3 := b3.keep g5 (by omega))
        | ((with_reducible refine wpl_store_dot rfl _ _ rfl (N + 1 + 1) 0 0 dz ?_ ?_ d3 rfl ?_); (focus rfl); (focus rfl); intro w6 e3 g6 z6; have h2 := e2.keep g6 (by omega); have c8 := h2.cell 8 rfl; have h2 := rcells (show Blk _ _ _ (rgc (fun _ => 0) (.slice none 0 0)) from h2); have d0 := e3.cell 0 rfl; have d1 := e3.cell 1 rfl))
      refine bodyPost_ret (v := .tuple #[rg (fun _ => 0) (.slice none 0 0), .agg (dv 0 0), .int .i64 7]) (by simp [results, Try.results18, go_sem, h2, c8, d0, d1]) rfl ?_
      exact ⟨_, rfl, OwnL.nil_ _, (fun g hg => by cases hg), (k3.next g5 (fun k hk h => by have := HN.out; omega)).next g6 (fun k hk h => by have := HN.out; omega)⟩
    · have hTe : T = (vn, l2 ++ [mkSib p q s], (p, q), 0) := by rw [HW.out, if_pos rfl, if_neg h8]
      rw [mkSib_eq hp hq hs] at hTe
      subst hTe
      have h8i : ¬ ((8 : Int) ≤ (l2.length : Int)) := by omega
      have d0 := e8.cell 0 rfl
      have d1 := e8.cell 1 rfl
      have hone := Sl.built sibc sibc_len w4 76 ⟨p, q, s, hp, hq, hs⟩ #[.int .u8 p, .int .u32 q, .string (bs s)] rfl
      have f5 : Frm (fun _ => False) w4 (w4.alloc (.cells #[.int .u8 p, .int .u32 q, .string (bs s)] 76)) := (Frm.refl _ w4).alloc _
      obtain ⟨v6, w6, hrun, o6, gr, nb⟩ := append_sibs _ _ _ l2 [⟨p, q, s, hp, hq, hs⟩] (o4.keep f5 (fun _ _ h => h)) hone (by simp; omega)
      have hX : Frm (fun k => (Value.slice a2 l2.length c2).ownBlock = some k) w4 w6 := (f5.mono (fun _ _ h => h.elim)).grown gr (fun k _ e => e)
      obtain ⟨a6, c6, rfl, _, _⟩ := Row.slice o6
      have el : (l2 ++ [(⟨p, q, s, hp, hq, hs⟩ : SibI)]).length = l2.length + 1 := by simp
      rw [el] at hrun o6 nb
      have b2 := b2.keep hX (fun e => by have := n2 _ e; have := hob _ e; omega)
      have b3 := b3.keep hX (fun e => by have := n2 _ e; have := hob _ e; omega)
      have e7 := e7'.keep hX (fun e => by have := hob _ e; omega)
      have e8 := e8.keep hX (fun e => by have := hob _ e; omega)
      have k6 : Frm (fun _ => False) w w6 := k3.next hX (fun k hk e => by have := n2 k e; have := HN.out; omega)
      have n6 : ∀ g, (Value.slice a6 (l2.length + 1) c6).ownBlock = some g → N + 3 ≤ g ∧ g ≠ B ∧ g ≠ B + 1 := fun g e => (nb g e).elim (fun e => ⟨n2 g e, by have := hob g e; omega, by have := hob g e; omega⟩) (fun e => by have := f5.size; omega)
      have HRUN := Lib.hid hrun
      clear hrun f5 hX gr nb hone e7' o4 k3 h8 el
      go_upto_region 7 with (first
        | (at_builtin; refine Lib.wpList_append_run _ rfl _ _ _ _ rfl _ _ rfl rfl _ _ HRUN.out ?_)
        | ((with_reducible refine wpl_store_L rfl _ _ rfl B vn (.slice a2 l2.length c2) a6 (l2.length + 1) c6 ?_ ?_ e7 ?_); (focus rfl); (focus rfl); intro w7 e9 g7 z7))
      have b2 := b2.keep g7 (by omega)
      have b3 := b3.keep g7 (by omega)
      have e8 := e8.keep g7 (by omega)
      have o7 := o6.keep g7 (fun g e => (n6 g e).2.1)
      have k7 : Frm (fun _ => False) w w7 := k6.next g7 (fun k hk e => by have := HN.out; omega)
      clear e7 g7 z7 o6 k6 HRUN s8 d0 d1
      refine wp_region_held_drew (S := fun w' : World => (Instr.loadAt 39 (.pointer (some ⟨B, 0, none⟩))).run Try.prog w' = .ok (rg vn (.slice a6 (l2.length + 1) c6)) w' ∧ (Instr.loadAt 27 (.pointer (some ⟨B + 1, 0, none⟩))).run Try.prog w' = .ok (.agg (dv p q)) w' ∧ Frm (fun k => k = N + 1 ∨ k = N + 1 + 1) w7 w') (by kernel_rfl) ⟨load_reg e9.drew, load_dotB e8.drew, (Frm.refl _ w7).drew⟩ (fun hHeld => ?_)
      refine wpAnyH_take (i := 0) (v := rg vn (.slice a6 (l2.length + 1) c6)) rfl (by kernel_rfl) (by kernel_rfl) (by kernel_rfl) (fun _ _ _ h => h) ?z0 (by assumption) ?_
      case z0 => (refine yieldsIf_load (by rfl) _ (by rfl) ?_ (fun w hs => hs.1); rfl)
      try simp only [Act.put, List.getElem_toArray, List.getElem_cons_zero, List.setIfInBounds_toArray, List.set_cons_zero, List.set_cons_succ]
      refine wpAnyH_take (i := 1) (v := .agg (dv p q)) rfl (by kernel_rfl) (by kernel_rfl) (by kernel_rfl) (fun _ _ _ h => h) ?z1 (by assumption) ?_
      case z1 => (refine yieldsIf_load (by rfl) _ (by rfl) ?_ (fun w hs => hs.2.1); rfl)
      try simp only [Act.put, List.getElem_toArray, List.getElem_cons_zero, List.getElem_cons_succ, List.setIfInBounds_toArray, List.set_cons_zero, List.set_cons_succ]
      clear hHeld
      refine seq_stores (i := 2) (j := 3) (k := 4) rfl rfl rfl rfl rfl rfl (by kernel_rfl) (by kernel_rfl) (by kernel_rfl) (by kernel_rfl)
        39 _ _ rfl (N + 1) (rgc vn (.slice a6 (l2.length + 1) c6)) rz rfl rfl 27 _ _ rfl (N + 1 + 1) (dv p q) dz rfl rfl
        b2.drew rfl (by show _ = some 9; kernel_rfl) (rg_one _ _ _ _) b3.drew rfl (by show _ = some 2; kernel_rfl) (by simp [Value.oneCell']) (by omega) ?hS ?hK
      case hS =>
        intro w8 f8
        exact ⟨load_reg (e9.drew.keep f8 (by omega)), load_dotB (e8.drew.keep f8 (by omega)), (Frm.refl _ w7).drew.trans f8⟩
      case hK =>
        intro w8 c2' c3' f8 _
        have hS8 : (Instr.loadAt 39 (.pointer (some ⟨B, 0, none⟩))).run Try.prog w8 = .ok (rg vn (.slice a6 (l2.length + 1) c6)) w8 ∧ (Instr.loadAt 27 (.pointer (some ⟨B + 1, 0, none⟩))).run Try.prog w8 = .ok (.agg (dv p q)) w8 ∧ Frm (fun k => k = N + 1 ∨ k = N + 1 + 1) w7 w8 := ⟨load_reg (e9.drew.keep f8 (by omega)), load_dotB (e8.drew.keep f8 (by omega)), (Frm.refl _ w7).drew.trans f8⟩
        refine wpOp_plain0 rfl rfl (fun K' hK' => ?_)
        unfold Oper.wp execOp
        go_simp
        refine hK' _ _ ⟨hS8, ?_⟩
        clear hK' hS8 K'
        have k8 : Frm (fun _ => False) w w8 := k7.next ((Frm.refl _ w7).drew.trans f8) (fun k hk h => by have := HN.out; omega)
        have c8 := c2'.cell 8 rfl
        have h2 := rcells c2'
        have d0 := c3'.cell 0 rfl
        have d1 := c3'.cell 1 rfl
        have o8 := o7.keep ((Frm.refl (fun q => q = N + 1 ∨ q = N + 1 + 1) w7).drew.trans f8) (fun g e => by have := n6 g e; omega)
        try simp only [Act.put, List.getElem_toArray, List.getElem_cons_zero, List.getElem_cons_succ, List.setIfInBounds_toArray, List.set_cons_zero, List.set_cons_succ]
        go_wp2_with fail
        refine bodyPost_ret (v := .tuple #[rg vn (.slice a6 (l2.length + 1) c6), .agg (dv p q), .int .i64 0]) (by simp [results, Try.results18, go_sem, h2, c8, d0, d1]) rfl ?_
        exact ⟨_, rfl, o8, (fun g e => by have := n6 g e; have := HN.out; omega), k8⟩
  · have hTe : T = (fun _ => 0, [], (0, 0), e0) := by rw [HW.out, if_neg h0]
    subst hTe
    have h0i : ((e0 : Int) == 0) = false := by simp; exact h0
    have h0j : ((e0 : Int) != 0) = true := by simp; exact h0
    clear h0
    go_wp2_with (first
      | ((with_reducible refine wpl_store_blk rfl 39 _ _ rfl (N + 1) rz rz ?_ ?_ b2 rfl ?_ ?_ ?_); (focus rfl); (focus rfl); (focus (show _ = some 9; kernel_rfl)); (focus (simp [Value.oneCell'])); intro w5 e2 g5 z5; have d3 := b3.keep g5 (by omega))
      | ((with_reducible refine wpl_store_dot rfl _ _ rfl (N + 1 + 1) 0 0 dz ?_ ?_ d3 rfl ?_); (focus rfl); (focus rfl); intro w6 e3 g6 z6; have h2 := e2.keep g6 (by omega); have c8 := h2.cell 8 rfl; have h2 := rcells (show Blk _ _ _ (rgc (fun _ => 0) (.slice none 0 0)) from h2); have d0 := e3.cell 0 rfl; have d1 := e3.cell 1 rfl))
    refine bodyPost_ret (v := .tuple #[rg (fun _ => 0) (.slice none 0 0), .agg (dv 0 0), .int .i64 e0]) (by simp [results, Try.results18, go_sem, h2, c8, d0, d1]) rfl ?_
    exact ⟨_, rfl, OwnL.nil_ _, (fun g hg => by cases hg), (k3.next g5 (fun k hk h => by have := HN.out; omega)).next g6 (fun k hk h => by have := HN.out; omega)⟩
end Go.Proofs.Ytojbgckabifnjaa

