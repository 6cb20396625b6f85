/- SpacePlays: whatever is taken, used and given of a space of any blocks is answered, and free then, as the document says. No condition. -/
import Derived.Test.YtdhnidmeeocajaaSpV
import Derived.Test.YtdhnidmeeocajaaCanonS
namespace Go.Proofs.Ytdhnidmeeocajaa
open Go.RowKit Go.Shelf
attribute [local go_sem] Oper.semAt_some

theorem spseq_eql (w : World) (f : Fn) (a c : Array Value) : (binOp .eql 47 (.func f a c) .nilFunc).run Try.prog w = .ok (.bool false) w := by
  have h : ∀ d : Nat, (Op.equalIn (d + 1) 47 (.func f a c) .nilFunc).run Try.prog w = .ok false w := fun d => by
    simp [Op.equalIn, run_underlying Try.underlying47]
  simp only [binOp]
  simp [Op.equal, Op.maxDepth, h 9999]
/-- A region's operation is a call. -/
theorem wpOp_callS {ops : Array Oper} {Q : Exit → Act → World → Prop} {K : Act → World → Prop} {i : Nat} {o : Oper} {a : Act} {W : World} {f : FuncId} {args : Array Value} {e : Tmp} (hi : ops[i]? = some o) (hd : o.dst = some e) (hw : Region.wanted o (yielded ops a.tmps) = true)
    (h : (execOp a.eval o).run Try.prog W = .ok (.enter f args) W) (hc : Calls Try.prog f args W fun e' W' => ∃ u, e' = .returned u ∧ K (a.put (some e) u) W') : wpOp Try.prog ops Q i K a W :=
  OpOK.wpOp (K := fun u W' => K (a.put (some e) u) W') hi (.inl ⟨hw, by rw [h]; exact hc⟩) fun _ _ h => by rw [hd]; exact h
/-- An append whose run is known. -/
theorem wpListIn_append_runS {F : Fence} {n : Nat} {P : Program} {w : World} {ops : Array Oper} {rest : List Oper} {o : Oper} {a : Act} {Q : Exit → Act → World → Prop} (hg : o.guard = none) (s x : Operand) (t tn : TypeId)
    (ho : o.op = .call { callee := .builtin .append, args := #[s, x], argTypes := #[t, tn] }) (vs vx : Value) (hs : a.eval s = vs) (hx : a.eval x = vx) (v' : Value) (w' : World) (hr : (Builtin.append_ #[t, tn] o.type #[vs, vx]).run P w = .ok v' w')
    (h : wpListIn F n P ops Q rest (a.put o.dst v') w') : wpListIn F n P ops Q (o :: rest) a w := by
  refine wpListIn_plain hg fun K' hK' => ?_
  unfold Oper.wpIn
  refine ⟨by simp [Oper.about, ho, resolve, Target.leads, Sem.run_pure], ?_⟩
  rw [Oper.semAt_plain F _ _ (by rw [ho]; intro c hc'; cases hc')]
  simp [execOp, ho, resolve, invoke, builtin, hs, hx, hr, Result.andThen]
  exact hK' _ _ h
/-- Copies of both; the old one did something. -/
theorem BothS.copied {w0 w w1 w2 w3 : World} {s g r : Nat} {S : SpV} {L : List Int} {u v v' : Value} (h : BothS w0 w s g r S L u) (h1 : NewSp S w v w1) (h2 : NewRf S w1 v' w2) (g3 : Frm (· = g) w2 w3) :
    ∃ s' g' r' L' u', v = .pointer (some ⟨s', 0, none⟩) ∧ v' = .pointer (some ⟨r', 0, none⟩) ∧ BothS w0 w3 s' g' r' S L' u' := by
  obtain ⟨s', g', rfl, hM, hs, hg, g1⟩ := h1
  obtain ⟨r', L', u', rfl, hR, hr, hu, g2⟩ := h2
  have z0 := h.frm.size
  have z1 := g1.size
  have a1 := hM.slt
  have a2 := hM.lt
  have a3 := h.sp.lt
  have ho := h.o
  exact ⟨s', g', r', L', u', rfl, rfl, (hM.keepF g2).keep g3 (by omega) (by omega), hR.keep g3 (by omega) (fun b hb => by have := hu b hb; omega), ⟨by omega, by omega⟩, fun b hb => by have := hu b hb; omega, by omega, fun b hb => by have := hu b hb; omega, ((h.frm.trans g1).trans g2).next g3 (fun k hk e => by omega)⟩
/-- What has been got. -/
structure GotI {S : SpV} (w1 : World) (GB B : Nat) (pre : List (SE S)) (W : World) : Prop where
  l : ∃ v, Blk W GB 23 #[v] ∧ OwnI W v (zs15 (ns pre)) ∧ ∀ b, v.ownBlock = some b → B ≤ b
  frm : Frm (fun _ => False) w1 W
  hi : B ≤ W.heap.size
theorem GotI.own {S : SpV} (w1 : World) (GB B B' : Nat) (hB : w1.heap.size ≤ B') : OwnFrom B' (GotI (S := S) w1 GB B) := fun _ _ _ _ h hg hr => by
  have hr2 := fun r e => (hr r e).2
  obtain ⟨v, h1, h2, h3⟩ := h.l
  exact ⟨⟨v, h1.turned hg hr2, Row.turned h2 hg hr2, h3⟩, h.frm.turned hB hg hr, Nat.le_trans h.hi hg.size⟩
theorem GotI.step {S : SpV} {w1 W W2 : World} {GB B s g Bn : Nat} {pre : List (SE S)} {x : SE S} {v v' : Value} (hv : GotI w1 GB B pre W) (hb : Blk W GB 23 #[v]) (ho : OwnI W v (zs15 (ns pre))) (hg : ∀ b, v.ownBlock = some b → B ≤ b)
    (hgr : (W.alloc (.cells #[.int .i64 (x.1 : Nat)] 3)).grownBy W2 v.ownBlock) (hown : OwnI W2 v' (zs15 (ns (pre ++ [x])))) (hnew : ∀ b, v'.ownBlock = some b → v.ownBlock = some b ∨ (W.alloc (.cells #[.int .i64 (x.1 : Nat)] 3)).heap.size ≤ b)
    (h1 : w1.heap.size ≤ GB) (h2 : GB < B) (hs : s < w1.heap.size) (hgg : g < w1.heap.size) (hBn : GB < Bn ∧ Bn < B) :
    KeepsOthers W (W2.setCell ⟨GB, 0, none⟩ v') ∧ keptX (spX Bn s g) W (W2.setCell ⟨GB, 0, none⟩ v') ∧ GotI w1 GB B (pre ++ [x]) (W2.setCell ⟨GB, 0, none⟩ v') := by
  have f1 : Frm (fun _ => False) W (W.alloc (.cells #[.int .i64 (x.1 : Nat)] 3)) := (Frm.refl _ W).alloc _
  have hX : Frm (fun k => v.ownBlock = some k) W W2 := (f1.mono (fun _ _ h => h.elim)).grown hgr (fun k _ e => e)
  have hX2 : Frm (fun k => k = GB ∨ v.ownBlock = some k) W (W2.setCell ⟨GB, 0, none⟩ v') := (hX.mono (fun _ _ h => .inr h)).setCell (p := ⟨GB, 0, none⟩) (fun _ => .inl rfl) _
  have hlt := hb.lt
  have hsz := f1.size
  have hBW := hv.hi
  have hg2 : ∀ b, v'.ownBlock = some b → B ≤ b := fun b e => (hnew b e).elim (hg b) (fun e => by omega)
  refine ⟨hX2.others fun k o hk ho2 => ?_, fun k hk => ?_, ⟨v', ?_, ?_, hg2⟩, ?_, ?_⟩
  · rcases hk with rfl | hk
    · exact hb.isCells _ o rfl ho2
    · exact Row.isCellsR ho k o hk ho2
  · have hkw : k < W.heap.size := by
      have := hv.frm.size
      rcases hk with rfl | rfl | rfl <;> omega
    exact hX2.block k hkw (fun e => by
      have hb2 : ∀ b, v.ownBlock = some b → B ≤ b := hg
      rcases e with e | e
      · rcases hk with rfl | rfl | rfl <;> omega
      · have := hb2 k e
        rcases hk with rfl | rfl | rfl <;> omega)
  · exact (hb.keep hX fun e => by have := hg _ e; omega).set 0 v'
  · exact Row.setOther (p := ⟨GB, 0, none⟩) hown (fun e => by have h9 : B ≤ GB := hg2 _ e; omega) _
  · exact (hv.frm.next hX (fun k hk e => by have := hg k e; omega)).setCell (p := ⟨GB, 0, none⟩) (fun h => absurd h (by show ¬ GB < _; omega)) _
  · have := hX2.size
    omega
set_option maxRecDepth 100000 in
set_option maxHeartbeats 64000000 in
theorem spacePlays_any (x y : Int) (v : Value) (l : List Int) (v2 : Value) (A : List A2) (w : World) (hx : Z64 x) (hy : Z64 y) (hv : Zs w v l) (_ : ∀ z ∈ l, Z64 z) (hA : A2L w v2 A) :
    Calls Try.prog 3 #[.agg #[.int .i64 x, .int .i64 y], v, v2] w fun e w' => e = .returned (.bool true) ∧ Frm (fun _ => False) w w' := by
  have HWK := Lib.hid (fun W => awake15_any W)
  obtain ⟨a1, cap1, rfl, hc1, hc2⟩ := hv.slice
  unfold maxLen at hc2
  obtain ⟨a2, cap2, rfl, hd1, hd2⟩ := hA.slice
  unfold maxLen at hd2
  have ga : Frm (fun _ => False) w (w.alloc (.cells #[.int .i64 x, .int .i64 y] 22)) := (Frm.refl _ w).alloc _
  have ba := Blk.alloc w 22 #[.int .i64 x, .int .i64 y]
  obtain ⟨wa, hwa⟩ : ∃ wa, w.alloc (.cells #[.int .i64 x, .int .i64 y] 22) = wa := ⟨_, rfl⟩
  obtain ⟨bb, hbb⟩ : ∃ bb, w.heap.size = bb := ⟨_, rfl⟩
  rw [hwa] at ga
  rw [hwa, hbb] at ba
  by_cases h60 : l.length ≤ 60 ∧ A.length ≤ 60
  · have i1 : ¬ (60 : Int) < (l.length : Int) := by omega
    have i2 : ¬ (60 : Int) < (A.length : Int) := by omega
    have k0 := ba.cell 0 rfl
    have k1 := ba.cell 1 rfl
    have hS := spload_any x y _ l wa hx hy (hv.keepF ga)
    have hR := fun (W : World) (gW : Frm (fun _ => False) wa W) => rfload_any x y _ l W (hv.keepF (ga.trans gW))
    have hN := fun (W : World) => spnew_any x y W hx hy
    have hMy := fun (W : World) => rfmay_any x y W
    unfold LoadTo at hS
    unfold RLoadTo at hR
    unfold NewSpTo at hN
    have HBA := Lib.hid (And.intro ba ga)
    have HA := Lib.hid hA
    cases hm : maySp x y with
    | false =>
      simp only [hm, Bool.false_eq_true, if_false] at hS hR hN hMy
      have HS := Lib.hid hS
      have HR := Lib.hid (hR wa (Frm.refl _ _))
      have Hn := Lib.hid (show ∀ W, Frm (fun _ => False) wa W → Calls Try.prog 9 #[.int .i64 x, .int .i64 y] W fun e w' => e = .returned (.pointer none) ∧ Frm (fun _ => False) W w' from fun W _ => (hN W).mono fun e w' ⟨h1, h2⟩ => ⟨h1, by rw [← h2]; exact Frm.refl _ _⟩)
      have Hm := Lib.hid (show ∀ W, Frm (fun _ => False) wa W → Calls Try.prog 10 #[.int .i64 x, .int .i64 y] W fun e w' => e = .returned (.bool false) ∧ Frm (fun _ => False) W w' from fun W _ => (hMy W).mono fun e w' ⟨h1, h2⟩ => ⟨h1, by rw [← h2]; exact Frm.refl _ _⟩)
      clear hS hR hN hMy hm ga ba hv hA hx hy
      go_enter Try.func3, Try.ntmps3
      go_wp2_with fail
      clear hwa hbb
      refine HS.out.mono ?_
      rintro e wz ⟨rfl, rfl⟩
      go_wp2_with fail
      refine HR.out.mono ?_
      rintro e wz ⟨rfl, rfl⟩
      clear HS HR
      go_upto_region 5 with fail
      have f0 := Frm.refl (fun _ => False) wa
      go_region_held3 (fun w' => w'.cell? ⟨bb, 0, none⟩ = some (.int .i64 x) ∧ w'.cell? ⟨bb, 1, none⟩ = some (.int .i64 y) ∧ Frm (fun _ => False) wa w')
        (((try dsimp only); (try go_split_ands); (repeat' apply And.intro) <;> (first
          | assumption
          | exact Frm.drew (by assumption)
          | exact Frm.cellF gg (by assumption)
          | (refine Frm.trans ?_ gg; assumption)
          | go_keep)))
        (first
          | (go_at_call 9; (with_reducible refine (Hn.out _ (And.right (And.right (by assumption)))).mono ?_); rintro e ww ⟨rfl, gg⟩)
          | (go_at_call 10; (with_reducible refine (Hm.out _ (And.right (And.right (by assumption)))).mono ?_); rintro e ww ⟨rfl, gg⟩))
      all_goals
        rename_i hH
        have GH := Lib.hid (HBA.out.2.trans hH.2.2)
        clear hH gg
        go_wp2_with fail
        refine (HWK.out _).mono ?_
        rintro e wq ⟨rfl, gq⟩
        have GQ := Lib.hid (GH.out.trans gq)
        clear gq
        go_wp2_with fail
        go_ret
        exact ⟨rfl, GQ.out⟩
    | true =>
      simp only [hm, if_true] at hS hR hN hMy
      have Hn := Lib.hid (show ∀ W, Frm (fun _ => False) wa W → Calls Try.prog 9 #[.int .i64 x, .int .i64 y] W fun e w' => ∃ sn, e = .returned (.pointer (some ⟨sn, 0, none⟩)) ∧ Frm (fun _ => False) W w' from fun W _ => (hN W).mono fun e w' ⟨v, h1, sn, gn, h2, _, _, _, h6⟩ => ⟨sn, by rw [h1, h2], h6⟩)
      have Hm := Lib.hid (show ∀ W, Frm (fun _ => False) wa W → Calls Try.prog 10 #[.int .i64 x, .int .i64 y] W fun e w' => e = .returned (.bool true) ∧ Frm (fun _ => False) W w' from fun W _ => (hMy W).mono fun e w' ⟨h1, h2⟩ => ⟨h1, by rw [← h2]; exact Frm.refl _ _⟩)
      cases hld : (SpV.new x.toNat y.toNat).loadU l with
      | none =>
        simp only [hld, LoadEnd, RLoadEnd] at hS hR
        have HS := Lib.hid hS
        have HR := Lib.hid hR
        clear hS hR hN hMy hm ga ba hv hA hx hy hld
        go_enter Try.func3, Try.ntmps3
        go_wp2_with fail
        clear hwa hbb
        refine HS.out.mono ?_
        rintro e w3 ⟨rfl, g3⟩
        have HR3 := Lib.hid (HR.out w3 g3)
        have k0 := (HBA.out.1.keep g3 (fun h => h)).cell 0 rfl
        have k1 := (HBA.out.1.keep g3 (fun h => h)).cell 1 rfl
        go_wp2_with fail
        refine HR3.out.mono ?_
        rintro e w4 ⟨rfl, g4⟩
        have g34 := g3.trans g4
        have k0 := (HBA.out.1.keep g34 (fun h => h)).cell 0 rfl
        have k1 := (HBA.out.1.keep g34 (fun h => h)).cell 1 rfl
        have f0 := g34
        clear HS HR HR3 g3 g4 g34
        go_upto_region 5 with fail
        go_region_held3 (fun w' => w'.cell? ⟨bb, 0, none⟩ = some (.int .i64 x) ∧ w'.cell? ⟨bb, 1, none⟩ = some (.int .i64 y) ∧ Frm (fun _ => False) wa w')
          (((try dsimp only); (try go_split_ands); (repeat' apply And.intro) <;> (first
            | assumption
            | exact Frm.drew (by assumption)
            | exact Frm.cellF gg (by assumption)
            | (refine Frm.trans ?_ gg; assumption)
            | go_keep)))
          (first
            | (go_at_call 9; (with_reducible refine (Hn.out _ (And.right (And.right (by assumption)))).mono ?_); rintro e ww ⟨sn, rfl, gg⟩)
            | (go_at_call 10; (with_reducible refine (Hm.out _ (And.right (And.right (by assumption)))).mono ?_); rintro e ww ⟨rfl, gg⟩))
        all_goals
          rename_i hH
          have GH := Lib.hid (HBA.out.2.trans hH.2.2)
          clear hH gg
          go_wp2_with fail
          refine (HWK.out _).mono ?_
          rintro e wq ⟨rfl, gq⟩
          have GQ := Lib.hid (GH.out.trans gq)
          clear gq
          go_wp2_with fail
          go_ret
          exact ⟨rfl, GQ.out⟩
      | some S =>
        simp only [hld, LoadEnd, RLoadEnd] at hS hR
        have HS := Lib.hid hS
        have HR := Lib.hid hR
        clear hS hR hN hMy hm ga ba hv hA hx hy hld
        refine (callsIn_wide (n := 9)).1 ?_
        refine callsIn_of_wp_marks Try.func3 rfl trivial ?_ rfl
        simp only [Try.ntmps3, List.size_toArray, List.length_cons, List.length_nil, Nat.reduceAdd, Nat.reduceSub, Array.replicate_succ, Array.replicate_zero, List.push_toArray, List.append_toArray, List.nil_append, List.cons_append]
        refine wpIn_wide.2 ?_
        refine Code.wp_mono calmR_le ?_
        go_wp2_with fail
        clear hwa hbb
        refine HS.out.mono ?_
        rintro e w3 ⟨v3, rfl, hn3⟩
        have g3 : Frm (fun _ => False) wa w3 := by
          obtain ⟨_, _, _, _, _, _, g⟩ := hn3
          exact g
        have HR3 := Lib.hid (HR.out w3 g3)
        have k0 := (HBA.out.1.keep g3 (fun h => h)).cell 0 rfl
        have k1 := (HBA.out.1.keep g3 (fun h => h)).cell 1 rfl
        have HN3 := Lib.hid hn3
        obtain ⟨s3, _, rfl, _⟩ := hn3
        go_wp2_with fail
        refine HR3.out.mono ?_
        rintro e w4 ⟨v4, rfl, hn4⟩
        obtain ⟨s, g, r, L, u, hs4, hr4, hb4⟩ := BothS.made HBA.out.2 HN3.out hn4
        cases hs4
        subst hr4
        have g4 : Frm (fun _ => False) w3 w4 := by
          obtain ⟨_, _, _, _, _, _, _, g⟩ := hn4
          exact g
        have g34 := g3.trans g4
        have k0 := (HBA.out.1.keep g34 (fun h => h)).cell 0 rfl
        have k1 := (HBA.out.1.keep g34 (fun h => h)).cell 1 rfl
        have f0 := Frm.refl (fun _ => False) w4
        have HB4 := Lib.hid hb4
        have Hn := Lib.hid (fun W (gW : Frm (fun _ => False) w4 W) => Hn.out W (g34.trans gW))
        have Hm := Lib.hid (fun W (gW : Frm (fun _ => False) w4 W) => Hm.out W (g34.trans gW))
        clear HS HR HR3 g3 g4 g34 hn4 hb4 HN3
        go_upto_region 5 with fail
        go_region_held3 (fun w' => w'.cell? ⟨bb, 0, none⟩ = some (.int .i64 x) ∧ w'.cell? ⟨bb, 1, none⟩ = some (.int .i64 y) ∧ Frm (fun _ => False) w4 w')
          (((try dsimp only); (try go_split_ands); (repeat' apply And.intro) <;> (first
            | assumption
            | exact Frm.drew (by assumption)
            | exact Frm.cellF gg (by assumption)
            | (refine Frm.trans ?_ gg; assumption)
            | go_keep)))
          (first
            | (go_at_call 9; (with_reducible refine (Hn.out _ (And.right (And.right (by assumption)))).mono ?_); rintro e ww ⟨sn, rfl, gg⟩)
            | (go_at_call 10; (with_reducible refine (Hm.out _ (And.right (And.right (by assumption)))).mono ?_); rintro e ww ⟨rfl, gg⟩))
        all_goals
          rename_i hH
          have HB := Lib.hid (HB4.out.keepF hH.2.2)
          clear hH gg HB4 k0 k1 f0
          go_wp2_with fail
          go_loopw [11, 7, 9] (fun i sv rv wr => ∃ (j : Nat) (s g r : Nat) (S : SpV) (L : List Int) (u : Value), j ≤ A.length ∧ i = .int .i64 (j : Nat) ∧ sv = .pointer (some ⟨s, 0, none⟩) ∧ rv = .pointer (some ⟨r, 0, none⟩) ∧ BothS w wr s g r S L u) (fun i _ _ _ => A.length - (intOf i).toNat)
          case atStart => exact ⟨0, s3, g, r, S, L, u, Nat.zero_le _, rfl, rfl, rfl, HB.out⟩
          case round =>
            clear HB
            obtain ⟨j, s, g, r, S, L, u, hj, rfl, rfl, rfl, hB⟩ := hrel
            by_cases hlt : j < A.length
            · have hki : (j : Int) < (A.length : Int) := by omega
              obtain ⟨gb, off, rfl, hgb, c0, c1⟩ := A2L.elem (HA.out.keepF hB.frm) j hlt
              obtain ⟨z, hz⟩ : ∃ z, A[j] = z := ⟨_, rfl⟩
              rw [hz] at c0 c1
              have hzk := z.hk
              obtain ⟨q, hq⟩ : ∃ q, z.q = q := ⟨_, rfl⟩
              rw [hq] at c1
              obtain ⟨kk, hkk⟩ : ∃ kk, z.k = kk := ⟨_, rfl⟩
              rw [hkk] at c0 hzk
              obtain ⟨m, hm⟩ : ∃ m, kk % 5 = m := ⟨_, rfl⟩
              have hm5 : m < 5 := by omega
              have s1 : (kk : Int) % 5 = (m : Int) := by omega
              have s1' : (kk : Int).tmod 5 = (m : Int) := by rw [Int.tmod_eq_emod_of_nonneg (by omega)]; exact s1
              have s3 : IntKind.u8.wrap (m : Int) = (m : Int) := IntWalk.u8_in _ (by omega)
              have hck : ¬ cap2 = j := by omega
              have HCells := Lib.hid (show ∀ W, Frm (fun _ => False) w W → W.cell? ⟨gb, off + j * 2, none⟩ = some (.int .u8 (kk : Nat)) ∧ W.cell? ⟨gb, off + j * 2 + 1, none⟩ = some (.int .i64 q) from fun W gW => by
                obtain ⟨gb', off', e, _, d0, d1⟩ := A2L.elem (HA.out.keepF gW) j hlt
                cases e
                rw [hz, hkk] at d0
                rw [hz, hq] at d1
                exact ⟨d0, d1⟩)
              have HJ := Lib.hid hj
              have HBB := Lib.hid hB
              clear hz hq hkk hm hB hj
              by_cases m4 : m = 4
              · subst m4
                have HC := Lib.hid (spcopy_any s g S wr HBB.out.sp)
                go_wp2_with fail
                refine HC.out.mono ?_
                rintro e w6 ⟨v6, rfl, hn6⟩
                have g6 : Frm (fun _ => False) wr w6 := by
                  obtain ⟨_, _, _, _, _, _, gg⟩ := hn6
                  exact gg
                have HN6 := Lib.hid (And.intro hn6 g6)
                obtain ⟨s6, _, rfl, _⟩ := hn6
                have HC2 := Lib.hid (rfcopy_any r S L u w6 (HBB.out.rf.keepF g6))
                clear HC g6
                go_wp2_with fail
                refine HC2.out.mono ?_
                rintro e w7 ⟨v7, rfl, hn7⟩
                have g7 : Frm (fun _ => False) w6 w7 := by
                  obtain ⟨_, _, _, _, _, _, _, gg⟩ := hn7
                  exact gg
                have HT := sptake_any s g S w7 (HBB.out.sp.keepF (HN6.out.2.trans g7))
                unfold TakeTo at HT
                have HT := Lib.hid HT
                have HN7 := Lib.hid hn7
                clear hn7 g7 HC2
                go_wp2_with fail
                refine HT.out.mono ?_
                rintro e w8 ⟨rfl, _, g8⟩
                obtain ⟨s', g', r', L', u', e1, e2, hb8⟩ := HBB.out.copied HN6.out.1 HN7.out g8
                cases e1
                subst e2
                have HB8 := Lib.hid hb8
                have d0 := (HCells.out w8 hb8.frm).1
                have d1 := (HCells.out w8 hb8.frm).2
                clear hb8 g8 HT HN6 HN7 HBB c0 c1
                go_upto_region 17 with fail
                have HO := Lib.hid (fun W (gW : Frm (fun _ => False) w8 W) => one15_any s6 g' r' kk q S L' u' w W (HB8.out.keepF gW) hzk)
                refine wp_region_stage 9 39 (fun w' => w'.cell? ⟨gb, off + j * 2, none⟩ = some (.int .u8 (kk : Nat)) ∧ w'.cell? ⟨gb, off + j * 2 + 1, none⟩ = some (.int .i64 q) ∧ Frm (fun _ => False) w8 w') (by kernel_rfl) rfl rfl (by kernel_rfl) (by kernel_rfl) (by kernel_rfl) (by kernel_rfl) (⟨d0, d1, (Frm.refl _ w8).drew⟩) ?_
                repeat' first
                  | (refine CanonL.skip (by rfl) ?_; (try simp only [Act.put, List.setIfInBounds_toArray, List.set_cons_zero, List.set_cons_succ]))
                  | (refine CanonL.val (v := ?_) (by rfl) ?_ ?_; rotate_left 1; (focus (intro w hSw; (try dsimp only at hSw); go_simp; (try (with_reducible rfl)); done)); (try simp only [Act.put, List.setIfInBounds_toArray, List.set_cons_zero, List.set_cons_succ]))
                refine CanonL.done ?_
                intro w9 hS9
                obtain ⟨_, _, g9⟩ := hS9
                refine wpOp_callS rfl rfl (by rfl) (by go_simp) ((HO.out w9 g9).mono ?_)
                rintro e wb ⟨rfl, L1, u1, hb⟩
                refine ⟨_, rfl, ?_⟩
                simp only [Act.put, List.setIfInBounds_toArray, List.set_cons_zero, List.set_cons_succ]
                obtain ⟨S1, hS1⟩ : ∃ S1, oneS S kk q = S1 := ⟨_, rfl⟩
                rw [hS1] at hb
                have p0 := hb.rf.blk.cell 0 rfl
                have p1 := hb.rf.blk.cell 1 rfl
                have p2 := hb.rf.blk.cell 2 rfl
                obtain ⟨p3, p4⟩ := HCells.out wb hb.frm
                obtain ⟨ua, uc, hu1, hu2, hu3⟩ := hb.rf.own.slice
                have hlen := hb.rf.lst.len
                have hL1 := hb.rf.lst.le hb.rf.ok
                have hok := hb.rf.ok
                have hlo := hok.lo
                have hhi := hok.hi
                obtain ⟨bq, hbq⟩ : ∃ bq, S1.isF q = bq := ⟨_, rfl⟩
                have HF1 : ∀ w', (w'.cell? ⟨r', 0, none⟩ = some (.int .i64 (S1.a : Nat)) ∧ w'.cell? ⟨r', 1, none⟩ = some (.int .i64 (S1.n : Nat)) ∧ w'.cell? ⟨r', 2, none⟩ = some (.slice ua L1.length uc) ∧ w'.cell? ⟨gb, off + j * 2 + 1, none⟩ = some (.int .i64 q) ∧ Frm (fun _ => False) wb w') → Calls Try.prog 15 #[.pointer (some ⟨s6, 0, none⟩), .int .i64 q] w' fun e w'' => e = .returned (.bool bq) ∧ Frm (fun _ => False) w' w'' := fun w' hw => (spfree_any s6 g' S1 q w' (hb.sp.keepF hw.2.2.2.2)).mono fun e w'' ⟨h1, h2⟩ => ⟨by rw [h1, hbq], by rw [← h2]; exact Frm.refl _ _⟩
                have HF2 : ∀ w', (w'.cell? ⟨r', 0, none⟩ = some (.int .i64 (S1.a : Nat)) ∧ w'.cell? ⟨r', 1, none⟩ = some (.int .i64 (S1.n : Nat)) ∧ w'.cell? ⟨r', 2, none⟩ = some (.slice ua L1.length uc) ∧ w'.cell? ⟨gb, off + j * 2 + 1, none⟩ = some (.int .i64 q) ∧ Frm (fun _ => False) wb w') → Calls Try.prog 16 #[.pointer (some ⟨r', 0, none⟩), .int .i64 q] w' fun e w'' => e = .returned (.bool bq) ∧ Frm (fun _ => False) w' w'' := fun w' hw => (rffree_any r' S1 L1 u1 q w' (hb.rf.keepF hw.2.2.2.2)).mono fun e w'' ⟨h1, h2⟩ => ⟨by rw [h1, hbq], by rw [← h2]; exact Frm.refl _ _⟩
                have HCt : ∀ w', (w'.cell? ⟨r', 0, none⟩ = some (.int .i64 (S1.a : Nat)) ∧ w'.cell? ⟨r', 1, none⟩ = some (.int .i64 (S1.n : Nat)) ∧ w'.cell? ⟨r', 2, none⟩ = some (.slice ua L1.length uc) ∧ w'.cell? ⟨gb, off + j * 2 + 1, none⟩ = some (.int .i64 q) ∧ Frm (fun _ => False) wb w') → Calls Try.prog 17 #[.pointer (some ⟨s6, 0, none⟩)] w' fun e w'' => e = .returned (.int .i64 ((S1.n : Int) - (S1.a : Int) - (L1.length : Int))) ∧ Frm (fun _ => False) w' w'' := fun w' hw => (spcount_any s6 g' S1 w' (hb.sp.keepF hw.2.2.2.2)).mono fun e w'' ⟨h1, h2⟩ => ⟨by rw [h1, show ((S1.all.length : Nat) : Int) = (S1.n : Int) - (S1.a : Int) - (L1.length : Int) by omega], h2⟩
                have wr1 : IntKind.i64.wrap ((S1.n : Int) - (S1.a : Int)) = (S1.n : Int) - (S1.a : Int) := IntWalk.i64_in _ (by omega)
                have wr2 : IntKind.i64.wrap ((S1.n : Int) - (S1.a : Int) - (L1.length : Int)) = (S1.n : Int) - (S1.a : Int) - (L1.length : Int) := IntWalk.i64_in _ (by omega)
                have bqq : (bq != bq) = false := by simp
                rw [hu1] at p2
                have HBX := Lib.hid hb
                clear hb hlen hu1 hS1 hbq
                refine ⟨fun w' => w'.cell? ⟨r', 0, none⟩ = some (.int .i64 (S1.a : Nat)) ∧ w'.cell? ⟨r', 1, none⟩ = some (.int .i64 (S1.n : Nat)) ∧ w'.cell? ⟨r', 2, none⟩ = some (.slice ua L1.length uc) ∧ w'.cell? ⟨gb, off + j * 2 + 1, none⟩ = some (.int .i64 q) ∧ Frm (fun _ => False) wb w', ⟨p0, p1, p2, p4, Frm.refl _ wb⟩, ?_⟩
                repeat' first
                  | (refine CanonL.skip (by rfl) ?_; (try simp only [Act.put, List.setIfInBounds_toArray, List.set_cons_zero, List.set_cons_succ]))
                  | (refine CanonL.callS (by rfl) (by rfl) ?_ HF1 ?_ ?_; (focus (intro w; go_simp; (try (with_reducible rfl)); done)); (focus (rintro w ww hs gg; exact ⟨gg.cellF hs.1, gg.cellF hs.2.1, gg.cellF hs.2.2.1, gg.cellF hs.2.2.2.1, hs.2.2.2.2.trans gg⟩)); (try simp only [Act.put, List.setIfInBounds_toArray, List.set_cons_zero, List.set_cons_succ]))
                  | (refine CanonL.callS (by rfl) (by rfl) ?_ HF2 ?_ ?_; (focus (intro w; go_simp; (try (with_reducible rfl)); done)); (focus (rintro w ww hs gg; exact ⟨gg.cellF hs.1, gg.cellF hs.2.1, gg.cellF hs.2.2.1, gg.cellF hs.2.2.2.1, hs.2.2.2.2.trans gg⟩)); (try simp only [Act.put, List.setIfInBounds_toArray, List.set_cons_zero, List.set_cons_succ]))
                  | (refine CanonL.callS (by rfl) (by rfl) ?_ HCt ?_ ?_; (focus (intro w; go_simp; (try (with_reducible rfl)); done)); (focus (rintro w ww hs gg; exact ⟨gg.cellF hs.1, gg.cellF hs.2.1, gg.cellF hs.2.2.1, gg.cellF hs.2.2.2.1, hs.2.2.2.2.trans gg⟩)); (try simp only [Act.put, List.setIfInBounds_toArray, List.set_cons_zero, List.set_cons_succ]))
                  | (refine CanonL.val (v := ?_) (by rfl) ?_ ?_; rotate_left 1; (focus (intro w hSw; (try dsimp only at hSw); go_simp; (try (with_reducible rfl)); done)); (try simp only [Act.put, List.setIfInBounds_toArray, List.set_cons_zero, List.set_cons_succ]))
                refine CanonL.done ?_
                intro w9 hS9
                have HB9 := Lib.hid (HBX.out.keepF hS9.2.2.2.2)
                clear hS9 HF1 HF2 HCt p0 p1 p2 p3 p4 wr1 wr2 bqq
                go_wp2_with fail
                go_roundw
                case rel => exact ⟨j + 1, s6, g', r', S1, L1, u1, by omega, by go_num, rfl, rfl, HB9.out⟩
                case measure => simp [intOf]; omega
              · have m4i : ((m : Int) == 4) = false := by rw [beq_eq_false_iff_ne]; omega
                have d0 := c0
                have d1 := c1
                have HB8 := HBB
                clear c0 c1 HBB
                go_upto_region 17 with fail
                have HO := Lib.hid (fun W (gW : Frm (fun _ => False) wr W) => one15_any s g r kk q S L u w W (HB8.out.keepF gW) hzk)
                refine wp_region_stage 9 39 (fun w' => w'.cell? ⟨gb, off + j * 2, none⟩ = some (.int .u8 (kk : Nat)) ∧ w'.cell? ⟨gb, off + j * 2 + 1, none⟩ = some (.int .i64 q) ∧ Frm (fun _ => False) wr w') (by kernel_rfl) rfl rfl (by kernel_rfl) (by kernel_rfl) (by kernel_rfl) (by kernel_rfl) (⟨d0, d1, (Frm.refl _ wr).drew⟩) ?_
                repeat' first
                  | (refine CanonL.skip (by rfl) ?_; (try simp only [Act.put, List.setIfInBounds_toArray, List.set_cons_zero, List.set_cons_succ]))
                  | (refine CanonL.val (v := ?_) (by rfl) ?_ ?_; rotate_left 1; (focus (intro w hSw; (try dsimp only at hSw); go_simp; (try (with_reducible rfl)); done)); (try simp only [Act.put, List.setIfInBounds_toArray, List.set_cons_zero, List.set_cons_succ]))
                refine CanonL.done ?_
                intro w9 hS9
                obtain ⟨_, _, g9⟩ := hS9
                refine wpOp_callS rfl rfl (by rfl) (by go_simp) ((HO.out w9 g9).mono ?_)
                rintro e wb ⟨rfl, L1, u1, hb⟩
                refine ⟨_, rfl, ?_⟩
                simp only [Act.put, List.setIfInBounds_toArray, List.set_cons_zero, List.set_cons_succ]
                obtain ⟨S1, hS1⟩ : ∃ S1, oneS S kk q = S1 := ⟨_, rfl⟩
                rw [hS1] at hb
                have p0 := hb.rf.blk.cell 0 rfl
                have p1 := hb.rf.blk.cell 1 rfl
                have p2 := hb.rf.blk.cell 2 rfl
                obtain ⟨p3, p4⟩ := HCells.out wb hb.frm
                obtain ⟨ua, uc, hu1, hu2, hu3⟩ := hb.rf.own.slice
                have hlen := hb.rf.lst.len
                have hL1 := hb.rf.lst.le hb.rf.ok
                have hok := hb.rf.ok
                have hlo := hok.lo
                have hhi := hok.hi
                obtain ⟨bq, hbq⟩ : ∃ bq, S1.isF q = bq := ⟨_, rfl⟩
                have HF1 : ∀ w', (w'.cell? ⟨r, 0, none⟩ = some (.int .i64 (S1.a : Nat)) ∧ w'.cell? ⟨r, 1, none⟩ = some (.int .i64 (S1.n : Nat)) ∧ w'.cell? ⟨r, 2, none⟩ = some (.slice ua L1.length uc) ∧ w'.cell? ⟨gb, off + j * 2 + 1, none⟩ = some (.int .i64 q) ∧ Frm (fun _ => False) wb w') → Calls Try.prog 15 #[.pointer (some ⟨s, 0, none⟩), .int .i64 q] w' fun e w'' => e = .returned (.bool bq) ∧ Frm (fun _ => False) w' w'' := fun w' hw => (spfree_any s g S1 q w' (hb.sp.keepF hw.2.2.2.2)).mono fun e w'' ⟨h1, h2⟩ => ⟨by rw [h1, hbq], by rw [← h2]; exact Frm.refl _ _⟩
                have HF2 : ∀ w', (w'.cell? ⟨r, 0, none⟩ = some (.int .i64 (S1.a : Nat)) ∧ w'.cell? ⟨r, 1, none⟩ = some (.int .i64 (S1.n : Nat)) ∧ w'.cell? ⟨r, 2, none⟩ = some (.slice ua L1.length uc) ∧ w'.cell? ⟨gb, off + j * 2 + 1, none⟩ = some (.int .i64 q) ∧ Frm (fun _ => False) wb w') → Calls Try.prog 16 #[.pointer (some ⟨r, 0, none⟩), .int .i64 q] w' fun e w'' => e = .returned (.bool bq) ∧ Frm (fun _ => False) w' w'' := fun w' hw => (rffree_any r S1 L1 u1 q w' (hb.rf.keepF hw.2.2.2.2)).mono fun e w'' ⟨h1, h2⟩ => ⟨by rw [h1, hbq], by rw [← h2]; exact Frm.refl _ _⟩
                have HCt : ∀ w', (w'.cell? ⟨r, 0, none⟩ = some (.int .i64 (S1.a : Nat)) ∧ w'.cell? ⟨r, 1, none⟩ = some (.int .i64 (S1.n : Nat)) ∧ w'.cell? ⟨r, 2, none⟩ = some (.slice ua L1.length uc) ∧ w'.cell? ⟨gb, off + j * 2 + 1, none⟩ = some (.int .i64 q) ∧ Frm (fun _ => False) wb w') → Calls Try.prog 17 #[.pointer (some ⟨s, 0, none⟩)] w' fun e w'' => e = .returned (.int .i64 ((S1.n : Int) - (S1.a : Int) - (L1.length : Int))) ∧ Frm (fun _ => False) w' w'' := fun w' hw => (spcount_any s g S1 w' (hb.sp.keepF hw.2.2.2.2)).mono fun e w'' ⟨h1, h2⟩ => ⟨by rw [h1, show ((S1.all.length : Nat) : Int) = (S1.n : Int) - (S1.a : Int) - (L1.length : Int) by omega], h2⟩
                have wr1 : IntKind.i64.wrap ((S1.n : Int) - (S1.a : Int)) = (S1.n : Int) - (S1.a : Int) := IntWalk.i64_in _ (by omega)
                have wr2 : IntKind.i64.wrap ((S1.n : Int) - (S1.a : Int) - (L1.length : Int)) = (S1.n : Int) - (S1.a : Int) - (L1.length : Int) := IntWalk.i64_in _ (by omega)
                have bqq : (bq != bq) = false := by simp
                rw [hu1] at p2
                have HBX := Lib.hid hb
                clear hb hlen hu1 hS1 hbq
                refine ⟨fun w' => w'.cell? ⟨r, 0, none⟩ = some (.int .i64 (S1.a : Nat)) ∧ w'.cell? ⟨r, 1, none⟩ = some (.int .i64 (S1.n : Nat)) ∧ w'.cell? ⟨r, 2, none⟩ = some (.slice ua L1.length uc) ∧ w'.cell? ⟨gb, off + j * 2 + 1, none⟩ = some (.int .i64 q) ∧ Frm (fun _ => False) wb w', ⟨p0, p1, p2, p4, Frm.refl _ wb⟩, ?_⟩
                repeat' first
                  | (refine CanonL.skip (by rfl) ?_; (try simp only [Act.put, List.setIfInBounds_toArray, List.set_cons_zero, List.set_cons_succ]))
                  | (refine CanonL.callS (by rfl) (by rfl) ?_ HF1 ?_ ?_; (focus (intro w; go_simp; (try (with_reducible rfl)); done)); (focus (rintro w ww hs gg; exact ⟨gg.cellF hs.1, gg.cellF hs.2.1, gg.cellF hs.2.2.1, gg.cellF hs.2.2.2.1, hs.2.2.2.2.trans gg⟩)); (try simp only [Act.put, List.setIfInBounds_toArray, List.set_cons_zero, List.set_cons_succ]))
                  | (refine CanonL.callS (by rfl) (by rfl) ?_ HF2 ?_ ?_; (focus (intro w; go_simp; (try (with_reducible rfl)); done)); (focus (rintro w ww hs gg; exact ⟨gg.cellF hs.1, gg.cellF hs.2.1, gg.cellF hs.2.2.1, gg.cellF hs.2.2.2.1, hs.2.2.2.2.trans gg⟩)); (try simp only [Act.put, List.setIfInBounds_toArray, List.set_cons_zero, List.set_cons_succ]))
                  | (refine CanonL.callS (by rfl) (by rfl) ?_ HCt ?_ ?_; (focus (intro w; go_simp; (try (with_reducible rfl)); done)); (focus (rintro w ww hs gg; exact ⟨gg.cellF hs.1, gg.cellF hs.2.1, gg.cellF hs.2.2.1, gg.cellF hs.2.2.2.1, hs.2.2.2.2.trans gg⟩)); (try simp only [Act.put, List.setIfInBounds_toArray, List.set_cons_zero, List.set_cons_succ]))
                  | (refine CanonL.val (v := ?_) (by rfl) ?_ ?_; rotate_left 1; (focus (intro w hSw; (try dsimp only at hSw); go_simp; (try (with_reducible rfl)); done)); (try simp only [Act.put, List.setIfInBounds_toArray, List.set_cons_zero, List.set_cons_succ]))
                refine CanonL.done ?_
                intro w9 hS9
                have HB9 := Lib.hid (HBX.out.keepF hS9.2.2.2.2)
                clear hS9 HF1 HF2 HCt p0 p1 p2 p3 p4 wr1 wr2 bqq
                go_wp2_with fail
                go_roundw
                case rel => exact ⟨j + 1, s, g, r, S1, L1, u1, by omega, by go_num, rfl, rfl, HB9.out⟩
                case measure => simp [intOf]; omega
            · obtain rfl : j = A.length := by omega
              have HB := Lib.hid hB
              clear hB hj
              go_wp2_with fail
              refine (spall_any (some ⟨s, 0, none⟩) _).mono ?_
              rintro e w11 ⟨rfl, rfl⟩
              have hse := spseq_eql
              have fy := ((Frm.refl (fun _ => False) wr).alloc (.cells #[.slice none 0 0] 23)).alloc (.cells #[.pointer (some ⟨s, 0, none⟩)] 26)
              have hb1 := (Blk.alloc wr 23 #[.slice none 0 0]).old (.cells #[.pointer (some ⟨s, 0, none⟩)] 26)
              have hb2 := Blk.alloc (wr.alloc (.cells #[.slice none 0 0] 23)) 26 #[.pointer (some ⟨s, 0, none⟩)]
              have hz1 : (wr.alloc (.cells #[.slice none 0 0] 23)).heap.size = wr.heap.size + 1 := by simp
              have hz2 : ((wr.alloc (.cells #[.slice none 0 0] 23)).alloc (.cells #[.pointer (some ⟨s, 0, none⟩)] 26)).heap.size = wr.heap.size + 2 := by simp
              rw [hz1] at hb2
              have hslt := HB.out.sp.slt
              have hglt := HB.out.sp.lt
              obtain ⟨wy, hwy⟩ : ∃ wy, (wr.alloc (.cells #[.slice none 0 0] 23)).alloc (.cells #[.pointer (some ⟨s, 0, none⟩)] 26) = wy := ⟨_, rfl⟩
              rw [hwy] at fy hb1 hb2 hz2
              have hI0 : GotI (S := S) wr wr.heap.size (wr.heap.size + 2) [] wy := ⟨⟨_, hb1, OwnI.nil_ _, fun b hb => by cases hb⟩, fy, by omega⟩
              have HI0 := Lib.hid hI0
              have HY := Lib.hid (And.intro hb2 (And.intro hz2 (And.intro hslt hglt)))
              clear fy hb1 hb2 hz1 hz2 hslt hglt hI0
              go_wp2_with fail
              clear hwy
              have hwwy : w.heap.size ≤ wy.heap.size := by have := HY.out.2.1; have := HB.out.frm.size; omega
              refine (wpIn_wide (n := 9)).1 ?_
              refine wpIn_rangeFunc_ownF rfl (by omega) (gf := 33) (lb := #[.pointer (some ⟨wr.heap.size + 1, 0, none⟩)]) rfl trivial (enters_of Try.func33 (by kernel_rfl) rfl)
                (spall_stops (wr.heap.size + 1) s g S wy HY.out.1 (HB.out.sp.keepF HI0.out.frm)) keptX.trans (keptX.put (fun k hk => by have := HY.out.2; rcases hk with rfl | rfl | rfl <;> omega)) (Below.refl _ _) (fun _ => rfl)
                (GotI wr wr.heap.size (wr.heap.size + 2)) (fun _ _ _ => False) (GotI.own wr _ _ _ (by have := HY.out.2.1; omega)) (fun _ _ _ _ _ h _ _ => h) HI0.out ?a1 ?assign ?body ?done ?stop
              case assign =>
                intro l0 x W K hK
                gi_wp2
                exact hK
              case body =>
                rintro l0 pre x W hv hlen
                have hal : S.all.length ≤ 2048 := Nat.le_trans (S.done_len S.n) HB.out.sp.ok.hi
                obtain ⟨v, hb, ho, hg⟩ := hv.l
                obtain ⟨a, cap, rfl, hc1, hc2⟩ := ho.slice
                have cl := hb.cell 0 rfl
                have hpl : (zs15 (ns pre)).length ≤ 3000 := by rw [zs15_len, ns_length]; omega
                obtain ⟨v', W2, hrun, hown, hgr, hnew⟩ := append_is (W.alloc (.cells #[.int .i64 (x.1 : Nat)] 3)) _ _ (zs15 (ns pre)) [(x.1 : Int)] (ho.keepF ((Frm.refl _ W).alloc _)) (Zs.lit W (x.1 : Int)) (by simp; omega)
                have e1 : zs15 (ns (pre ++ [x])) = zs15 (ns pre) ++ [(x.1 : Int)] := by rw [ns_append, zs15_app]; rfl
                have e2 : (zs15 (ns (pre ++ [x]))).length = (zs15 (ns pre)).length + 1 := by rw [e1]; simp
                rw [← e1] at hown
                have hstep := hv.step (s := s) (g := g) (Bn := wr.heap.size + 1) hb ho hg hgr hown hnew (Nat.le_refl _) (by omega) HY.out.2.2.1 HY.out.2.2.2 (by omega)
                have hb2 : Blk W2 wr.heap.size 23 #[.slice a (zs15 (ns pre)).length cap] := (hb.old _).keep ((Frm.refl (fun k => Value.ownBlock (.slice a (zs15 (ns pre)).length cap) = some k) _).grown hgr (fun k _ e => e)) (fun e => by have := hg _ e; omega)
                obtain ⟨aa, ac, rfl, _, _⟩ := hown.slice
                rw [e2] at hrun hstep
                have cl2 := hb2.cell 0 rfl
                have fl2 := hb2.free 0
                have Hrun := Lib.hid hrun
                have Hst := Lib.hid hstep
                unfold maxLen at hc2
                clear hrun hstep hown hnew hgr hb2 hb ho hg e1 e2 hv hlen
                gi_wp2_with (refine wpListIn_append_runS rfl _ _ _ _ rfl _ _ rfl rfl _ _ Hrun.out ?_)
                exact Hst.out
              case stop =>
                rintro D c pre W _ _ h _
                exact h.elim
              case done =>
                rintro D xs W hD hxs hv hK
                have hDlt := (Array.getElem?_eq_some_iff.1 hK).1
                have hD2 : w.heap.size ≤ D := by omega
                have hal : S.all.length ≤ 2048 := Nat.le_trans (S.done_len S.n) HB.out.sp.ok.hi
                obtain ⟨v, hb, ho, hg⟩ := hv.l
                rw [hxs] at ho
                obtain ⟨Z, hZ⟩ : ∃ Z, zs15 S.all = Z := ⟨_, rfl⟩
                have hZl : Z.length ≤ 2048 := by rw [← hZ, zs15_len]; exact hal
                rw [hZ] at ho
                obtain ⟨a, cap, rfl, hc1, hc2⟩ := ho.slice
                unfold maxLen at hc2
                have cl := hb.cell 0 rfl
                have hR := rfall_any r S L u W (HB.out.rf.keepF hv.frm)
                rw [hZ] at hR
                have HR := Lib.hid hR
                have HW := Lib.hid (And.intro hb (And.intro ho (HB.out.frm.trans hv.frm)))
                have HK := Lib.hid hK
                clear hR hb ho hg hv hK hxs hZ hal HI0 HY hse hwwy
                go_wp2_with fail
                refine HR.out.mono ?_
                rintro e w12 ⟨v12, rfl, h12, n12, g12⟩
                obtain ⟨b1, bc, rfl, hbc1, hbc2⟩ := h12.slice
                unfold maxLen at hbc2
                have cl := (HW.out.1.keep g12 (fun h => h)).cell 0 rfl
                have H12 := Lib.hid (And.intro h12 (And.intro (HW.out.2.1.keepF g12) (And.intro (HW.out.1.keep g12 (fun h => h)) (And.intro ((g12.block D hDlt (fun h => h)).trans HK.out) (HW.out.2.2.trans g12)))))
                clear h12 n12 g12 HR HW HK
                go_wp2_with fail
                go_loopw [17] (fun i wz => ∃ k : Nat, k ≤ Z.length ∧ i = .int .i64 (k : Nat) ∧ Frm (fun _ => False) w12 wz) (fun i _ => Z.length - (intOf i).toNat)
                case atStart => exact ⟨0, Nat.zero_le _, rfl, Frm.refl _ _⟩
                case round =>
                  obtain ⟨k, hk, rfl, gz⟩ := hrel
                  have cl := (H12.out.2.2.1.keep gz (fun h => h)).cell 0 rfl
                  by_cases hkl : k < Z.length
                  · have hki : (k : Int) < (Z.length : Int) := by omega
                    obtain ⟨g1, o1, rfl, _, d1⟩ := Zs.at (H12.out.1.zs.keepF gz) k hkl
                    obtain ⟨g2, o2, rfl, _, d2⟩ := Zs.at (H12.out.2.1.zs.keepF gz) k hkl
                    obtain ⟨zz, hzz⟩ : ∃ zz, Z[k] = zz := ⟨_, rfl⟩
                    rw [hzz] at d1 d2
                    have hq1 : (zz != zz) = false := by simp
                    have GZ := Lib.hid gz
                    clear gz hzz
                    go_upto_region 32 with fail
                    go_quiet (fail)
                    have G9 := Lib.hid (GZ.out.drewN nq)
                    go_wp2_with fail
                    go_roundw
                    case rel => exact ⟨k + 1, by omega, by go_num, G9.out⟩
                    case measure => simp [intOf]; omega
                  · obtain rfl : k = Z.length := by omega
                    have GZ := Lib.hid gz
                    clear gz
                    go_wp2_with fail
                    refine (HWK.out _).mono ?_
                    rintro e w13 ⟨rfl, g13⟩
                    have gg := GZ.out.trans g13
                    have hK' := (gg.block D (Array.getElem?_eq_some_iff.1 H12.out.2.2.2.1).1 (fun h => h)).trans H12.out.2.2.2.1
                    have HE := Lib.hid (And.intro hK' (H12.out.2.2.2.2.trans gg))
                    clear gg hK' g13
                    go_wp2_with fail
                    refine calmR_ret ?_
                    refine ⟨by simp, .inl ⟨_, _, rfl, run_takeDeferred HE.out.1, ?_⟩⟩
                    exact ⟨_, results_tmp rfl _ _ _, rfl, HE.out.2.grown (grownBy_putObj' w13 D (.deferred none)) (fun k hk e => by cases e; omega)⟩
  · go_enter Try.func3, Try.ntmps3
    have GA := Lib.hid ga
    have hor : 60 < l.length ∨ 60 < A.length := by omega
    clear ga ba hv hA h60
    by_cases i1 : (60 : Int) < (l.length : Int)
    · go_wp2_with fail
      clear hwa hbb
      refine (HWK.out _).mono ?_
      rintro e wq ⟨rfl, gq⟩
      have GQ := Lib.hid (GA.out.trans gq)
      clear gq
      go_wp2_with fail
      go_ret
      exact ⟨rfl, GQ.out⟩
    · have i2 : (60 : Int) < (A.length : Int) := by omega
      go_wp2_with fail
      clear hwa hbb
      refine (HWK.out _).mono ?_
      rintro e wq ⟨rfl, gq⟩
      have GQ := Lib.hid (GA.out.trans gq)
      clear gq
      go_wp2_with fail
      go_ret
      exact ⟨rfl, GQ.out⟩

end Go.Proofs.Ytdhnidmeeocajaa
