/- What the document's Write does. No condition. -/
import Derived.Test.YtdhnidmeeocajaaGreatDvT
import Derived.OwnWalk
import Derived.Lib.AppendZeros
namespace Go.Proofs.YtdhnidmeeocajaaGreat
open Go.RowKit Go.Shelf

theorem finfo_parts {α β γ : Type} {o : Option TypeInfo} {f : TypeInfo → α} {g : TypeInfo → β} {h : TypeInfo → γ} {a : α} {b : β} {c : γ} (e : o.map (fun i => (f i, g i, h i)) = some (a, b, c)) : ∃ i, o = some i ∧ f i = a ∧ g i = b ∧ h i = c := by
  cases o with
  | none => cases e
  | some i => simp at e; exact ⟨i, rfl, e.1, e.2.1, e.2.2⟩
theorem infoFr : (Tryz.prog.info? 132).map (fun i => (i.zero, i.size, i.bytes)) = some (some (.agg #[.int .i64 0, .string ⟨#[]⟩]), 2, 24) := by kernel_rfl
theorem infoSt : (Tryz.prog.info? 9).map (fun i => (i.zero, i.size, i.bytes)) = some (some (.string ⟨#[]⟩), 1, 16) := by kernel_rfl
theorem append_frs (w : World) (v x : Value) (l m : List (Nat × List UInt8)) (h : OwnF w v l) (hs : FrL w x m) (hb : l.length + m.length ≤ 1000000) :
    ∃ v' w', (Builtin.append_ #[74, 74] 74 #[v, x]).run Tryz.prog w = .ok v' w' ∧ OwnF w' v' (l ++ m) ∧ w.grownBy w' v.ownBlock ∧ (∀ g, v'.ownBlock = some g → v.ownBlock = some g ∨ w.heap.size ≤ g) := by
  obtain ⟨i0, hi, hz0, hz1, hz2⟩ := finfo_parts infoFr
  obtain ⟨v', w', h1, h2, h3, h4⟩ := run_append_row w 74 74 74 132 i0 (.agg #[.int .i64 0, .string ⟨#[]⟩]) 2 24 Tryz.underlying74 hi hz0 hz1 hz2 rfl h x m.length (flat frc m)
    (Sl.src hs Tryz.underlying74 (flat_one frc frc_one m)) (by unfold maxLen; omega) (by omega)
  exact ⟨v', w', h1, by unfold OwnF; rw [List.length_append, flat_append]; exact h2, h3, h4⟩
theorem append_sts (w : World) (v x : Value) (l m : List (List UInt8)) (h : OwnS w v l) (hs : Strs w x m) (hb : l.length + m.length ≤ 1000000) :
    ∃ v' w', (Builtin.append_ #[60, 60] 60 #[v, x]).run Tryz.prog w = .ok v' w' ∧ OwnS w' v' (l ++ m) ∧ w.grownBy w' v.ownBlock ∧ (∀ g, v'.ownBlock = some g → v.ownBlock = some g ∨ w.heap.size ≤ g) := by
  obtain ⟨i0, hi, hz0, hz1, hz2⟩ := finfo_parts infoSt
  obtain ⟨v', w', h1, h2, h3, h4⟩ := run_append_row w 60 60 60 9 i0 (.string ⟨#[]⟩) 1 16 Tryz.underlying60 hi hz0 hz1 hz2 rfl h x m.length (strs m)
    (Sl.src hs Tryz.underlying60 (strs_one m)) (by unfold maxLen; omega) (by omega)
  exact ⟨v', w', h1, by unfold OwnS; rw [List.length_append, strs_append]; exact h2, h3, h4⟩
theorem FrL.take {w : World} {a : Option Addr} {n cap : Nat} {l : List (Nat × List UInt8)} (h : FrL w (.slice a n cap) l) (hn : n = l.length) (k : Nat) (hk : k ≤ n) (hc : k ≤ cap) : FrL w (.slice a k cap) (l.take k) := by
  subst hn
  have := Sl.take h k cap hk hc (Nat.le_refl _)
  rw [flat_take frc frc_len] at this
  unfold FrL
  rw [List.length_take, Nat.min_eq_left hk]
  exact this
theorem FrL.drop {w : World} {a : Option Addr} {n cap : Nat} {l : List (Nat × List UInt8)} (h : FrL w (.slice a n cap) l) (hn : n = l.length) (k : Nat) (hk : k ≤ n) : FrL w (.slice (if cap = k then a else a.map (·.add (k * 2))) (n - k) (cap - k)) (l.drop k) := by
  subst hn
  have := Sl.drop h k hk
  rw [flat_drop frc frc_len] at this
  unfold FrL
  rw [List.length_drop]
  exact this
theorem FrL.one (w : World) (q : Nat) (s : List UInt8) : FrL (w.alloc (.cells #[.int .i64 (q : Nat), .string (bs s)] 132)) (.slice (some ⟨w.heap.size, 0, none⟩) 1 1) [(q, s)] := by
  refine ⟨rfl, _, 1, rfl, Nat.le_refl _, by decide, .inr ⟨_, 0, rfl, by simp, fun j hj => ?_⟩⟩
  have hb := Blk.alloc w 132 #[.int .i64 (q : Nat), .string (bs s)]
  rcases (show j = 0 ∨ j = 1 by simp at hj; omega) with rfl | rfl
  · exact hb.cell 0 rfl
  · exact hb.cell 1 rfl
theorem FrL.oneAt (w : World) (q : Nat) (s : List UInt8) (m : Nat) (hm : w.heap.size = m) : FrL (w.alloc (.cells #[.int .i64 (q : Nat), .string (bs s)] 132)) (.slice (some ⟨m, 0, none⟩) 1 1) [(q, s)] := by
  rw [← hm]
  exact FrL.one w q s
section
variable {ops : Array Oper} {rest : List Oper} {o : Oper} {a : Act} {w : World} {Q : Exit → Act → World → Prop}
theorem wpl_append_frs (hg : o.guard = none) (x y : Operand) (ho : o.op = .call { callee := .builtin .append, args := #[x, y], argTypes := #[74, 74] }) (ht : o.type = 74) (v u : Value) (l m : List (Nat × List UInt8)) (hx : a.eval x = v) (hy : a.eval y = u)
    (h : OwnF w v l) (hs : FrL w u m) (hb : l.length + m.length ≤ 1000000)
    (hK : ∀ v' w', OwnF w' v' (l ++ m) → w.grownBy w' v.ownBlock → (∀ g, v'.ownBlock = some g → v.ownBlock = some g ∨ w.heap.size ≤ g) → wpList Tryz.prog ops Q rest (a.put o.dst v') w') : wpList Tryz.prog ops Q (o :: rest) a w := by
  obtain ⟨v', w', h1, h2, h3, h4⟩ := append_frs w v u l m h hs hb
  exact Lib.wpList_append_run _ hg x y _ _ ho v u hx hy v' w' (by rw [ht]; exact h1) (hK v' w' h2 h3 h4)
end
theorem addr_add (g o n : Nat) : (⟨g, o, none⟩ : Addr).add n = ⟨g, o + n, none⟩ := by
  unfold Addr.add
  split
  · rename_i h; subst h; rfl
  · rfl
/-- What a call on the document's device leaves. -/
def RefTo (r : Nat) (D : DV) (fp : Nat → Prop) (w w' : World) : Prop := ∃ fp', RefM w' r D fp' ∧ Frm fp w w' ∧ ∀ k, fp' k → fp k ∨ w.heap.size ≤ k
theorem RefTo.same {r : Nat} {D : DV} {fp : Nat → Prop} {w w' : World} (h : RefM w' r D fp) (g : Frm fp w w') : RefTo r D fp w w' := ⟨fp, h, g, fun _ h => .inl h⟩

theorem RefC.putL {w w4 : World} {r : Nat} {A : List (List UInt8)} {B B' : List (Nat × List UInt8)} {fp : Nat → Prop} {va vb v4 : Value} (h : RefC w r A B fp va vb) (g : Frm (fun _ => False) w w4) (o : OwnF w4 v4 B') (n : ∀ g, v4.ownBlock = some g → w.heap.size ≤ g) :
    RefC (w4.setCell ⟨r, 1, none⟩ v4) r A B' (fun k => fp k ∨ (w.heap.size ≤ k ∧ k < w4.heap.size)) va v4 := by
  have hr := h.lt r h.fr
  refine ⟨(h.blk.keep g (fun h => h)).set 1 v4, Row.setOther (Row.keep h.firm g (fun _ _ h => h)) (fun e => (h.fa r e).2 rfl) v4, Row.setOther o (fun e => ?_) v4, .inl h.fr, fun g hg => ⟨.inl (h.fa g hg).1, (h.fa g hg).2⟩, fun g hg => ⟨.inr ⟨n g hg, Row.blk o g hg⟩, ?_, fun e => ?_⟩, fun k hk => ?_⟩
  · have := n r e; omega
  · have := n g hg; omega
  · have := n g hg
    have := h.lt g (h.fa g e).1
    omega
  · have e : (w4.setCell ⟨r, 1, none⟩ v4).heap.size = w4.heap.size := by simp [World.setCell]
    rw [e]
    have := g.size
    rcases hk with hk | hk
    · have := h.lt k hk; omega
    · exact hk.2
set_option maxRecDepth 100000 in
set_option maxHeartbeats 8000000 in
theorem write_ref (r : Nat) (D : DV) (fp : Nat → Prop) (q : Int) (s : List UInt8) (w : World) (h : RefM w r D fp) (hok : D.ok) (hq : Z64 q) (hs : s.length ≤ 9223372036854775807) :
    Calls Tryz.prog 47 #[.pointer (some ⟨r, 0, none⟩), .int .i64 q, .string (bs s)] w fun e w' => e = .returned (.int .i64 (D.writeE q s : Nat)) ∧ RefTo r (D.writeTo q s) fp w w' := by
  have h0 := Lib.hid h
  obtain ⟨va, vb, h⟩ := h
  obtain ⟨a, cap, rfl, hc1, hc2⟩ := h.firm.reads.slice
  rw [FRs_len] at hc1
  have e1 : (FRs D).length = D.n := FRs_len D
  have c0 : w.cell? ⟨r, 0, none⟩ = some (.slice a D.n cap) := by rw [← e1]; exact h.blk.cell 0 rfl
  unfold maxLen at hc2
  have H := Lib.hid (And.intro h hok)
  have hi := hok.hi
  clear h hok
  unfold DV.writeTo DV.writeE
  cases hb : D.bad q with
  | true =>
    have hb2 := of_decide_eq_true hb
    clear hb e1
    by_cases hneg : q < 0
    · go_enter Tryz.func47, Tryz.ntmps47
      go_wp2_with fail
      go_ret
      exact ⟨rfl, RefTo.same h0.out (Frm.refl _ _)⟩
    · have hge : (D.n : Int) ≤ q := by omega
      go_enter Tryz.func47, Tryz.ntmps47
      go_wp2_with fail
      go_ret
      exact ⟨rfl, RefTo.same h0.out (Frm.refl _ _)⟩
  | false =>
    have hb2 := of_decide_eq_false hb
    clear hb
    obtain ⟨k, rfl⟩ : ∃ k : Nat, q = (k : Int) := ⟨q.toNat, by omega⟩
    have hkN : k < D.n := by omega
    have hkn : (k : Int) < (D.n : Int) := by omega
    have hk0 : (0 : Int) ≤ (k : Int) := by omega
    rw [show ((k : Int)).toNat = k from rfl]
    clear hb2
    by_cases hl : s.length ≤ 64
    · have hl2 : ¬ (64 : Int) < ((bs s).size : Int) := by rw [bs_size]; omega
      have hl3 : ¬ 64 < s.length := by omega
      rw [show (if false = true then 2 else if 64 < s.length then 3 else 0 : Nat) = 0 from by simp [hl3], if_pos rfl]
      have HP := place_ref r D fp _ _ k w H.out.1 H.out.2 hkN
      have hfw := FLs_write D k s hkN
      have hfl := D.fresh_len
      have hll := FLs_len D
      obtain ⟨is, his⟩ : ∃ is, (D.X k).isSome = is := ⟨_, rfl⟩
      obtain ⟨R, hR⟩ : ∃ R, D.rank k = R := ⟨_, rfl⟩
      rw [his, hR] at HP hfw
      have hRl : R + (if is then 1 else 0) ≤ (FLs D).length := by
        rw [FLs_len, ← hR]
        cases is with
        | true =>
          have hat := DV.at_rank H.out.2 his
          obtain ⟨hq, _⟩ := List.getElem?_eq_some_iff.1 hat
          simp; omega
        | false =>
          obtain ⟨C, _, hs', _⟩ := fresh_split D k hkN
          have := congrArg List.length hs'
          rw [List.length_append] at this
          show D.rank k + 0 ≤ _
          unfold DV.rank
          omega
      obtain ⟨B, hB⟩ : ∃ B, FLs D = B := ⟨_, rfl⟩
      rw [hB] at hfw hRl hll
      have hBn : B.length ≤ 2048 := by omega
      have HF := Lib.hid (And.intro hfw hB)
      have HP := Lib.hid HP
      have hmk := run_makeZ (64 - s.length) (by omega)
      have hcv := run_textZ (64 - s.length)
      have hsub : IntKind.i64.wrap ((64 : Int) - ((bs s).size : Int)) = ((64 - s.length : Nat) : Int) := by rw [bs_size, IntKind.wrap_i64]; omega
      have hsum : (bs s).size + (bs (List.replicate (64 - s.length) 0)).size ≤ 9223372036854775807 := by rw [bs_size, bs_size, List.length_replicate]; omega
      have hcat : bs s ++ bs (List.replicate (64 - s.length) 0) = bs (padB s) := by rw [bs_append]; rfl
      clear hfw his hR hll hfl hl3 e1 hB
      go_enter Tryz.func47, Tryz.ntmps47
      go_wp2_with fail
      refine HP.out.mono ?_
      rintro e w1 ⟨rfl, g1⟩
      have hC := H.out.1.keep g1 (fun _ _ h => h)
      obtain ⟨al, cl, rfl, hcl1, hcl2⟩ := hC.list.frl.slice
      rw [HF.out.2] at hC hcl1
      unfold maxLen at hcl2
      have c1 : w1.cell? ⟨r, 1, none⟩ = some (.slice al B.length cl) := hC.blk.cell 1 rfl
      have hRB : R ≤ B.length := by omega
      have hRi : (R : Int) ≤ (cl : Int) := by omega
      have hR0 : (0 : Int) ≤ (R : Int) := by omega
      have ht := FrL.take (show FrL w1 (.slice al B.length cl) B from hC.list.frl) rfl R hRB (by omega)
      have HC := Lib.hid (And.intro hC (And.intro g1 ht))
      clear hC g1 ht
      go_upto_region 9 with (first
        | (at_builtin; refine wpl_append_frs rfl (.tmp 30) (.tmp 36) rfl rfl (.slice none 0 0) (.slice al R cl) [] (B.take R) rfl rfl (Row.nil_ w1 2) HC.out.2.2 (by rw [List.length_take]; simp; omega) ?_; intro v2 w2 o2 g2 n2; rw [List.nil_append] at o2)
        | (at_builtin; refine wpl_append_frs rfl (.tmp 38) (.tmp 48) rfl rfl v2 (.slice (some ⟨w2.heap.size + 1, 0, none⟩) 1 1) (B.take R) [(k, padB s)] rfl rfl (Row.alloc (Row.alloc o2 _) _) (FrL.oneAt (w2.alloc (.cells (u8s (List.replicate (64 - s.length) 0)).toArray 5)) k (padB s) _ (by simp)) (by rw [List.length_take]; simp; omega) ?_; intro v3 w3 o3 g3 n3)
        | fail)
      have f2 : Frm (fun _ => False) w1 w2 := (frm_grown g2).mono fun j _ hj => by cases hj
      have hv2 : ∀ g, v2.ownBlock = some g → w1.heap.size ≤ g := fun g hg => (n2 g hg).elim (fun h => by cases h) id
      have f3 : Frm (fun _ => False) w1 w3 := ((f2.alloc _).alloc _).next (frm_grown g3) fun j hj e => by have := hv2 j e; omega
      have hv3 : ∀ g, v3.ownBlock = some g → w1.heap.size ≤ g := fun g hg => (n3 g hg).elim (fun h => hv2 g h) fun h => by
        have := f2.size
        simp at h
        omega
      have hC3 := HC.out.1.keep f3 (fun _ _ h => h)
      have c1 : w3.cell? ⟨r, 1, none⟩ = some (.slice al B.length cl) := hC3.blk.cell 1 rfl
      have H3 := Lib.hid (And.intro hC3 (And.intro f3 (And.intro o3 hv3)))
      clear o2 g2 n2 o3 g3 n3 f2 hv2 f3 hv3 hC3
      obtain ⟨m, hm⟩ : ∃ m, R + (if is then 1 else 0) = m := ⟨_, rfl⟩
      have hmB : m ≤ B.length := by rw [← hm]; exact hRl
      have hmi : (m : Int) ≤ (cl : Int) := by omega
      have hm0 : (0 : Int) ≤ (m : Int) := by omega
      have hd := FrL.drop (show FrL w3 (.slice al B.length cl) B from H3.out.1.list.frl) rfl m hmB
      have HM := Lib.hid (And.intro hd hm)
      have hlt2 : (B.take R ++ [(k, padB s)]).length + (B.drop m).length ≤ 1000000 := by
        rw [List.length_append, List.length_take, List.length_drop]; simp; omega
      have hRm : is = true → m = R + 1 := fun e => by rw [← hm, e]; rfl
      have hRm2 : is = false → m = R := fun e => by rw [← hm, e]; rfl
      have HL := Lib.hid hlt2
      clear hd hm hlt2 hRl
      cases is with
      | true =>
        obtain rfl : m = R + 1 := hRm rfl
        clear hRm hRm2
        go_upto_region 11 with fail
        obtain ⟨g0, off0, rfl, hg0, _, _⟩ := FrL.elem (show FrL w3 (.slice al B.length cl) B from H3.out.1.list.frl) R (by omega)
        obtain ⟨N4, hN4⟩ : ∃ N, ((B.take R ++ [(k, padB s)]) ++ B.drop (R + 1)).length = N := ⟨_, rfl⟩
        have HN := Lib.hid hN4
        clear hN4
        by_cases hcl : cl = R + 1
        · go_wp2_with (first
            | (at_builtin; refine wpl_append_frs rfl (.tmp 54) (.tmp 60) rfl rfl v3 _ (B.take R ++ [(k, padB s)]) (B.drop (R + 1)) rfl rfl H3.out.2.2.1 (by have := HM.out.1; first | (rw [if_neg hcl] at this; exact this) | (refine (show FrL _ (.slice _ _ _) _ from ?_); rw [if_neg hcl, Option.map_some, addr_add] at this; exact this) | (simp only [hcl, Nat.sub_self] at this; exact this) | (rw [if_pos rfl, Nat.sub_self] at this; exact this)) HL.out ?_; intro v4 w4 o4 g4 n4; obtain ⟨a4, d4, rfl, _, _⟩ := Row.slice o4; rw [HN.out] at o4 n4 ⊢; have hB4 := H3.out.1.blk.keep (frm_grown g4) (fun e => by have := H3.out.2.2.2 _ e; have := HC.out.1.lt _ HC.out.1.fr; omega); have c4 := hB4.cell 1 rfl; have z4 := hB4.free 1; have H4 := Lib.hid (And.intro o4 (And.intro g4 n4)); clear o4 g4 n4 hB4 c1)
            | fail)
          go_ret
          have o4 := H4.out.1
          have g4 := H4.out.2.1
          have n4 := H4.out.2.2
          have hF4 : Frm (fun _ => False) w1 w4 := H3.out.2.1.next (frm_grown g4) fun j hj e => by have := H3.out.2.2.2 j e; omega
          have hn4 : ∀ g, (Value.slice a4 N4 d4).ownBlock = some g → w1.heap.size ≤ g := fun g hg => (n4 g hg).elim (fun h => H3.out.2.2.2 g h) fun h => by have := H3.out.2.1.size; omega
          have hS1 := HC.out.2.1.size
          have hfw := HF.out.1
          rw [show (if True then 1 else 0 : Nat) = 1 from rfl] at hfw
          refine ⟨rfl, fun k => fp k ∨ (w1.heap.size ≤ k ∧ k < w4.heap.size), ⟨_, _, by rw [FRs_write, hfw]; rw [List.append_assoc] at o4; exact HC.out.1.putL hF4 o4 hn4⟩, ((HC.out.2.1.mono fun _ _ h => h.elim).trans (hF4.mono fun _ _ h => h.elim)).setCell (fun _ => HC.out.1.fr) _, fun j hj => Or.elim hj .inl fun h => .inr (by omega)⟩
        · go_wp2_with (first
            | (at_builtin; refine wpl_append_frs rfl (.tmp 54) (.tmp 60) rfl rfl v3 _ (B.take R ++ [(k, padB s)]) (B.drop (R + 1)) rfl rfl H3.out.2.2.1 (by have := HM.out.1; first | (rw [if_neg hcl] at this; exact this) | (refine (show FrL _ (.slice _ _ _) _ from ?_); rw [if_neg hcl, Option.map_some, addr_add] at this; exact this) | (simp only [hcl, Nat.sub_self] at this; exact this) | (rw [if_pos rfl, Nat.sub_self] at this; exact this)) HL.out ?_; intro v4 w4 o4 g4 n4; obtain ⟨a4, d4, rfl, _, _⟩ := Row.slice o4; rw [HN.out] at o4 n4 ⊢; have hB4 := H3.out.1.blk.keep (frm_grown g4) (fun e => by have := H3.out.2.2.2 _ e; have := HC.out.1.lt _ HC.out.1.fr; omega); have c4 := hB4.cell 1 rfl; have z4 := hB4.free 1; have H4 := Lib.hid (And.intro o4 (And.intro g4 n4)); clear o4 g4 n4 hB4 c1)
            | fail)
          go_ret
          have o4 := H4.out.1
          have g4 := H4.out.2.1
          have n4 := H4.out.2.2
          have hF4 : Frm (fun _ => False) w1 w4 := H3.out.2.1.next (frm_grown g4) fun j hj e => by have := H3.out.2.2.2 j e; omega
          have hn4 : ∀ g, (Value.slice a4 N4 d4).ownBlock = some g → w1.heap.size ≤ g := fun g hg => (n4 g hg).elim (fun h => H3.out.2.2.2 g h) fun h => by have := H3.out.2.1.size; omega
          have hS1 := HC.out.2.1.size
          have hfw := HF.out.1
          rw [show (if True then 1 else 0 : Nat) = 1 from rfl] at hfw
          refine ⟨rfl, fun k => fp k ∨ (w1.heap.size ≤ k ∧ k < w4.heap.size), ⟨_, _, by rw [FRs_write, hfw]; rw [List.append_assoc] at o4; exact HC.out.1.putL hF4 o4 hn4⟩, ((HC.out.2.1.mono fun _ _ h => h.elim).trans (hF4.mono fun _ _ h => h.elim)).setCell (fun _ => HC.out.1.fr) _, fun j hj => Or.elim hj .inl fun h => .inr (by omega)⟩
      | false =>
        obtain rfl : R = m := (hRm2 rfl).symm
        clear hRm hRm2
        go_upto_region 11 with fail
        obtain ⟨N4, hN4⟩ : ∃ N, ((B.take R ++ [(k, padB s)]) ++ B.drop R).length = N := ⟨_, rfl⟩
        have HN := Lib.hid hN4
        clear hN4
        by_cases hcl : cl = R
        · cases al with
          | none =>
            go_wp2_with (first
              | (at_builtin; refine wpl_append_frs rfl (.tmp 54) (.tmp 60) rfl rfl v3 _ (B.take R ++ [(k, padB s)]) (B.drop R) rfl rfl H3.out.2.2.1 (by have := HM.out.1; first | (rw [if_neg hcl] at this; exact this) | (refine (show FrL _ (.slice _ _ _) _ from ?_); rw [if_neg hcl, Option.map_some, addr_add] at this; exact this) | (simp only [hcl, Nat.sub_self] at this; exact this) | (rw [if_pos rfl, Nat.sub_self] at this; exact this)) HL.out ?_; intro v4 w4 o4 g4 n4; obtain ⟨a4, d4, rfl, _, _⟩ := Row.slice o4; rw [HN.out] at o4 n4 ⊢; have hB4 := H3.out.1.blk.keep (frm_grown g4) (fun e => by have := H3.out.2.2.2 _ e; have := HC.out.1.lt _ HC.out.1.fr; omega); have c4 := hB4.cell 1 rfl; have z4 := hB4.free 1; have H4 := Lib.hid (And.intro o4 (And.intro g4 n4)); clear o4 g4 n4 hB4 c1)
              | fail)
            go_ret
            have o4 := H4.out.1
            have g4 := H4.out.2.1
            have n4 := H4.out.2.2
            have hF4 : Frm (fun _ => False) w1 w4 := H3.out.2.1.next (frm_grown g4) fun j hj e => by have := H3.out.2.2.2 j e; omega
            have hn4 : ∀ g, (Value.slice a4 N4 d4).ownBlock = some g → w1.heap.size ≤ g := fun g hg => (n4 g hg).elim (fun h => H3.out.2.2.2 g h) fun h => by have := H3.out.2.1.size; omega
            have hS1 := HC.out.2.1.size
            have hfw := HF.out.1
            rw [if_neg (by decide), Nat.add_zero] at hfw
            refine ⟨rfl, fun k => fp k ∨ (w1.heap.size ≤ k ∧ k < w4.heap.size), ⟨_, _, by rw [FRs_write, hfw]; rw [List.append_assoc] at o4; exact HC.out.1.putL hF4 o4 hn4⟩, ((HC.out.2.1.mono fun _ _ h => h.elim).trans (hF4.mono fun _ _ h => h.elim)).setCell (fun _ => HC.out.1.fr) _, fun j hj => Or.elim hj .inl fun h => .inr (by omega)⟩
          | some ad =>
            obtain ⟨g0, off0, _⟩ := ad
            go_wp2_with (first
              | (at_builtin; refine wpl_append_frs rfl (.tmp 54) (.tmp 60) rfl rfl v3 _ (B.take R ++ [(k, padB s)]) (B.drop R) rfl rfl H3.out.2.2.1 (by have := HM.out.1; first | (rw [if_neg hcl] at this; exact this) | (refine (show FrL _ (.slice _ _ _) _ from ?_); rw [if_neg hcl, Option.map_some, addr_add] at this; exact this) | (simp only [hcl, Nat.sub_self] at this; exact this) | (rw [if_pos rfl, Nat.sub_self] at this; exact this)) HL.out ?_; intro v4 w4 o4 g4 n4; obtain ⟨a4, d4, rfl, _, _⟩ := Row.slice o4; rw [HN.out] at o4 n4 ⊢; have hB4 := H3.out.1.blk.keep (frm_grown g4) (fun e => by have := H3.out.2.2.2 _ e; have := HC.out.1.lt _ HC.out.1.fr; omega); have c4 := hB4.cell 1 rfl; have z4 := hB4.free 1; have H4 := Lib.hid (And.intro o4 (And.intro g4 n4)); clear o4 g4 n4 hB4 c1)
              | fail)
            go_ret
            have o4 := H4.out.1
            have g4 := H4.out.2.1
            have n4 := H4.out.2.2
            have hF4 : Frm (fun _ => False) w1 w4 := H3.out.2.1.next (frm_grown g4) fun j hj e => by have := H3.out.2.2.2 j e; omega
            have hn4 : ∀ g, (Value.slice a4 N4 d4).ownBlock = some g → w1.heap.size ≤ g := fun g hg => (n4 g hg).elim (fun h => H3.out.2.2.2 g h) fun h => by have := H3.out.2.1.size; omega
            have hS1 := HC.out.2.1.size
            have hfw := HF.out.1
            rw [if_neg (by decide), Nat.add_zero] at hfw
            refine ⟨rfl, fun k => fp k ∨ (w1.heap.size ≤ k ∧ k < w4.heap.size), ⟨_, _, by rw [FRs_write, hfw]; rw [List.append_assoc] at o4; exact HC.out.1.putL hF4 o4 hn4⟩, ((HC.out.2.1.mono fun _ _ h => h.elim).trans (hF4.mono fun _ _ h => h.elim)).setCell (fun _ => HC.out.1.fr) _, fun j hj => Or.elim hj .inl fun h => .inr (by omega)⟩
        · obtain ⟨g0, off0, rfl⟩ : ∃ g0 off0, al = some ⟨g0, off0, none⟩ := by
            rcases H3.out.1.list.2 with ⟨e, e2⟩ | ⟨g, c, e, _⟩
            · have e3 : cl = 0 := by injection e
              omega
            · exact ⟨g, 0, by injection e⟩
          go_wp2_with (first
            | (at_builtin; refine wpl_append_frs rfl (.tmp 54) (.tmp 60) rfl rfl v3 _ (B.take R ++ [(k, padB s)]) (B.drop R) rfl rfl H3.out.2.2.1 (by have := HM.out.1; first | (rw [if_neg hcl] at this; exact this) | (refine (show FrL _ (.slice _ _ _) _ from ?_); rw [if_neg hcl, Option.map_some, addr_add] at this; exact this) | (simp only [hcl, Nat.sub_self] at this; exact this) | (rw [if_pos rfl, Nat.sub_self] at this; exact this)) HL.out ?_; intro v4 w4 o4 g4 n4; obtain ⟨a4, d4, rfl, _, _⟩ := Row.slice o4; rw [HN.out] at o4 n4 ⊢; have hB4 := H3.out.1.blk.keep (frm_grown g4) (fun e => by have := H3.out.2.2.2 _ e; have := HC.out.1.lt _ HC.out.1.fr; omega); have c4 := hB4.cell 1 rfl; have z4 := hB4.free 1; have H4 := Lib.hid (And.intro o4 (And.intro g4 n4)); clear o4 g4 n4 hB4 c1)
            | fail)
          go_ret
          have o4 := H4.out.1
          have g4 := H4.out.2.1
          have n4 := H4.out.2.2
          have hF4 : Frm (fun _ => False) w1 w4 := H3.out.2.1.next (frm_grown g4) fun j hj e => by have := H3.out.2.2.2 j e; omega
          have hn4 : ∀ g, (Value.slice a4 N4 d4).ownBlock = some g → w1.heap.size ≤ g := fun g hg => (n4 g hg).elim (fun h => H3.out.2.2.2 g h) fun h => by have := H3.out.2.1.size; omega
          have hS1 := HC.out.2.1.size
          have hfw := HF.out.1
          rw [if_neg (by decide), Nat.add_zero] at hfw
          refine ⟨rfl, fun k => fp k ∨ (w1.heap.size ≤ k ∧ k < w4.heap.size), ⟨_, _, by rw [FRs_write, hfw]; rw [List.append_assoc] at o4; exact HC.out.1.putL hF4 o4 hn4⟩, ((HC.out.2.1.mono fun _ _ h => h.elim).trans (hF4.mono fun _ _ h => h.elim)).setCell (fun _ => HC.out.1.fr) _, fun j hj => Or.elim hj .inl fun h => .inr (by omega)⟩
    · have hl2 : (64 : Int) < ((bs s).size : Int) := by rw [bs_size]; omega
      have hl3 : 64 < s.length := by omega
      rw [show (if false = true then 2 else if 64 < s.length then 3 else 0 : Nat) = 3 from by simp [hl3], if_neg (by decide)]
      clear e1
      go_enter Tryz.func47, Tryz.ntmps47
      go_wp2_with fail
      go_ret
      exact ⟨rfl, RefTo.same h0.out (Frm.refl _ _)⟩
end Go.Proofs.YtdhnidmeeocajaaGreat

