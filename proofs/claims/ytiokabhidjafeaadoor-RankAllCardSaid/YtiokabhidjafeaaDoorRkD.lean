/- The groups that rank makes of siblings, the last one first. No condition but that what is handed in as same answers, and leaves all as it lay; that values aren't too long. -/
import Derived.Test.YtiokabhidjafeaaDoorRkC
import Derived.Deep.RegionHeld
namespace Go.Proofs.YtiokabhidjafeaaDoor
open Go.RowKit Go.Shelf
attribute [local go_sem] Oper.semAt_some

/-- An append whose run is known, in a region that draws. -/
theorem step_append_runR {P : Program} {ops : Array Oper} {o : Oper} {a : Act} {w : World} {K : Act → World → Prop} {Q : Exit → Act → World → Prop} {E : Prop}
    (hg : o.guard = none) (s x : Operand) (t tx : TypeId) (hop : o.op = Op.call { callee := Callee.builtin Builtin.append, args := #[s, x], argTypes := #[t, tx] })
    (vs vx : Value) (hs : a.eval s = vs) (hx : a.eval x = vx) (v' : Value) (w' : World) (hr : (Builtin.append_ #[t, tx] o.type #[vs, vx]).run P w = .ok v' w') (hK : K (a.put o.dst v') w') :
    if Region.wanted o (yielded ops a.tmps) = true then Oper.wp P o a w K Q else E := by
  have hw : Region.wanted o (yielded ops a.tmps) = true := by simp [Region.wanted, hg]
  rw [if_pos hw]
  unfold Oper.wp
  simp [execOp, hop, resolve, invoke, builtin, hs, hx, hr, Result.andThen]
  exact hK
theorem Frm.cellA {w : World} {a : Addr} {v : Value} {o : Obj} (h : w.cell? a = some v) : (w.alloc o).cell? a = some v := by
  rw [World.cell?_alloc_some _ _ _ (by rw [h]; rfl)]; exact h
/-- What lies between two rounds. -/
structure GrI (w : World) (n1 : Nat) (sv : Value) (p : List UInt8 → List UInt8 → Bool) (pre : List BS) (W : World) : Prop where
  res : ∃ u P, Blk W (w.heap.size + 1) 30 #[u] ∧ GrO n1 W u P ∧ P.map Prod.fst = (pre.map (fun y => y.1.1)).foldl (addG p) []
  same : Blk W w.heap.size 76 #[sv]
  frm : Frm (fun _ => False) w W
  size : n1 ≤ W.heap.size
theorem GrI.own (w : World) (n1 : Nat) (sv : Value) (p : List UInt8 → List UInt8 → Bool) (B : Nat) (hB : w.heap.size ≤ B) : OwnFrom B (GrI w n1 sv p) := fun _ _ _ _ h hg hr => by
  have hr2 := fun r e => (hr r e).2
  obtain ⟨u, P, h1, h2, h3⟩ := h.res
  exact ⟨⟨u, P, h1.turned hg hr2, h2.turned hg hr2, h3⟩, h.same.turned hg hr2, h.frm.turned hB hg hr, Nat.le_trans h.size hg.size⟩
/-- One more dot in a group: what it leaves. -/
theorem gr_dot {Wb W0 W1 : World} {n1 g cap n k : Nat} {P : List (GrpI × Value)} {v' : Value} {x : DotI} {o : Obj} (hn : P.length = n) (h : GrO n1 Wb (.slice (some ⟨g, 0, none⟩) n cap) P) (hk : k < P.length) (g0 : Frm (fun _ => False) Wb W0) (hl : n1 ≤ Wb.heap.size)
    (ho : OwnE W1 v' (P[k].1.d ++ [x])) (hg : (W0.alloc o).grownBy W1 P[k].2.ownBlock) (hw : ∀ g, v'.ownBlock = some g → P[k].2.ownBlock = some g ∨ (W0.alloc o).heap.size ≤ g) :
    KeepsOthers Wb (W1.setCell ⟨g, k * 2 + 1, none⟩ v') ∧ Frm (fun q => q = g ∨ P[k].2.ownBlock = some q) Wb (W1.setCell ⟨g, k * 2 + 1, none⟩ v') ∧ GrO n1 (W1.setCell ⟨g, k * 2 + 1, none⟩ v') (.slice (some ⟨g, 0, none⟩) n cap) (P.set k (⟨P[k].1.s, P[k].1.d ++ [x]⟩, v')) := by
  have gA : Frm (fun _ => False) Wb (W0.alloc o) := g0.alloc _
  obtain ⟨h1, h2⟩ := GrO.dot hn (h.keepF gA) k hk x ho hg hw (Nat.le_trans hl gA.size)
  have h3 : Frm (fun q => q = g ∨ P[k].2.ownBlock = some q) Wb (W1.setCell ⟨g, k * 2 + 1, none⟩ v') := (gA.mono fun _ _ h => h.elim).trans h2
  refine ⟨h3.others fun q o hq ho2 => ?_, h3, h1⟩
  rcases hq with rfl | hq
  · exact Row.isCellsR h.row q o rfl ho2
  · exact Row.isCellsR (h.dots k hk) q o hq ho2
theorem grs_at {W : World} {a : Option Addr} {cap k n : Nat} {P : List (GrpI × Value)} (hn : P.length = n) (h : Row W 2 (.slice a n cap) n (flat grc P)) (hk : k < P.length) : ∃ g, a = some ⟨g, 0, none⟩ ∧ W.cell? ⟨g, k * 2 + 1, none⟩ = some P[k].2 ∧ W.frozen? ⟨g, k * 2 + 1, none⟩ = false := by
  subst hn
  rcases h.2 with ⟨_, e⟩ | ⟨g, cap', e, h1, _, _, h4, h5⟩
  · omega
  · cases e
    have hc : P.length * 2 ≤ cap * 2 := Nat.mul_le_mul_right _ h1
    refine ⟨g, rfl, ?_, (h5 (k * 2 + 1) (by omega)).2⟩
    rw [h4 (k * 2 + 1) (by omega), flat_at grc grc_len P k hk 1 (by omega)]
    rfl
theorem grs_vals {W : World} {u : Value} {P P' : List (GrpI × Value)} (h : Row W 2 u P.length (flat grc P)) (h' : Row W 2 u P'.length (flat grc P')) : P.length = P'.length ∧ ∀ i (hi : i < P.length) (hi' : i < P'.length), P[i].2 = P'[i].2 := by
  obtain ⟨a, cap, rfl, _, _⟩ := Row.slice h
  obtain ⟨a', cap', e, _, _⟩ := Row.slice h'
  simp only [Value.slice.injEq] at e
  obtain ⟨rfl, e, rfl⟩ := e
  have hl : P.length = P'.length := by omega
  refine ⟨hl, fun i hi hi' => ?_⟩
  obtain ⟨g, rfl, c, _⟩ := grs_at rfl h hi
  obtain ⟨g', e', c', _⟩ := grs_at (n := P.length) hl.symm (by rw [hl]; rw [hl] at h'; exact h') hi'
  cases e'
  rw [c] at c'
  exact Option.some.inj c'
theorem fin_of {w wr Wb We : World} {n1 : Nat} {sv : Value} {p : List UInt8 → List UInt8 → Bool} {pre : List BS} {x : BS} {K : Nat → Prop} (hi : GrI w n1 sv p pre wr) (hK : ∀ q, K q → q < n1 ∧ q ≠ w.heap.size + 1) (hn : w.heap.size + 2 ≤ n1) (k1 : KeepsOthers wr Wb)
    (f1 : Frm (fun q => q = w.heap.size + 1 ∨ n1 ≤ q) wr Wb) (k2 : KeepsOthers Wb We) (f2 : Frm (fun q => n1 ≤ q) Wb We) (hb : ∃ u P, Blk We (w.heap.size + 1) 30 #[u] ∧ GrO n1 We u P ∧ P.map Prod.fst = addG p ((pre.map (fun y => y.1.1)).foldl (addG p) []) x.1.1) :
    KeepsFrom n1 wr We ∧ keptS K wr We ∧ GrI w n1 sv p (pre ++ [x]) We := by
  have F : Frm (fun q => q = w.heap.size + 1 ∨ n1 ≤ q) wr We := f1.trans (f2.mono fun _ _ h => .inr h)
  obtain ⟨u, P, h1, h2, h3⟩ := hb
  refine ⟨(k1.trans k2).from _, fun q hq => F.block q (by have := (hK q hq).1; have := hi.size; omega) (fun e => by have := hK q hq; omega), ⟨u, P, h1, h2, ?_⟩, hi.same.keep F (fun e => by omega), hi.frm.next F (fun q hq e => by omega), Nat.le_trans hi.size F.size⟩
  rw [h3, List.map_append, List.foldl_append]
  rfl
/-- A call's answer: groups, in memory of its own. -/
def GrTo (L : List GrpI) (w : World) (e : Ending) (w' : World) : Prop := ∃ u P, e = .returned u ∧ GrO w.heap.size w' u P ∧ P.map Prod.fst = L ∧ Frm (fun _ => False) w w'
set_option maxRecDepth 100000 in
set_option maxHeartbeats 8000000 in
theorem grouped_any (p : List UInt8 → List UInt8 → Bool) (sv v : Value) (l : List SibI) (w : World) (h : OwnL w v l) (hp : SameTo w sv p) (hs : ∀ x ∈ l, x.s.length ≤ 200) (hb : l.length ≤ 1000) :
    Calls Tryd.prog 46 #[v, sv] w (GrTo (grps p l) w) := by
  have hp' := hp
  obtain ⟨gf, caps, rfl, _, _⟩ := hp'
  refine (callsIn_wide (n := 9)).1 ?_
  refine callsIn_of_wp_marks Tryd.func46 rfl trivial ?_ rfl
  simp only [Tryd.ntmps46, List.size_toArray, List.length_cons, List.length_nil, Nat.reduceAdd, Nat.reduceSub, Array.replicate_succ, Array.replicate_zero, List.push_toArray, List.append_toArray, List.nil_append, List.cons_append]
  have g0 : Frm (fun _ => False) w ((w.alloc (.cells #[(.func (.func gf) #[] caps)] 76)).alloc (.cells #[.slice none 0 0] 30)) := ((Frm.refl _ w).alloc _).alloc _
  have d0 : Blk ((w.alloc (.cells #[(.func (.func gf) #[] caps)] 76)).alloc (.cells #[.slice none 0 0] 30)) w.heap.size 76 #[(.func (.func gf) #[] caps)] := (Blk.alloc w _ _).old _
  have d1 : Blk ((w.alloc (.cells #[(.func (.func gf) #[] caps)] 76)).alloc (.cells #[.slice none 0 0] 30)) (w.heap.size + 1) 30 #[.slice none 0 0] := Blk.at1 w _ _ _
  have hz : ((w.alloc (.cells #[(.func (.func gf) #[] caps)] 76)).alloc (.cells #[.slice none 0 0] 30)).heap.size = w.heap.size + 1 + 1 := by simp
  have hs0 := h.sl.keepF g0
  refine wpIn_wide.2 ?_
  refine Code.wp_mono calmR_le ?_
  go_wp2_with fail
  refine (back_any v l _ hs0).mono ?_
  rintro e w1 ⟨rfl, rfl⟩
  go_wp2_with fail
  refine (wpIn_wide (n := 9)).1 ?_
  have g1 := (Frm.refl (fun _ => False) ((w.alloc (.cells #[(.func (.func gf) #[] caps)] 76)).alloc (.cells #[.slice none 0 0] 30))).alloc (.cells #[v] 25)
  have dB := Blk.alloc ((w.alloc (.cells #[(.func (.func gf) #[] caps)] 76)).alloc (.cells #[.slice none 0 0] 30)) 25 #[v]
  have d0 := d0.keep g1 (fun h => h)
  have d1 := d1.keep g1 (fun h => h)
  have k1 := g0.trans g1
  have hu := h.sl.keepF k1
  rw [hz] at dB
  have hz1 : (((w.alloc (.cells #[(.func (.func gf) #[] caps)] 76)).alloc (.cells #[.slice none 0 0] 30)).alloc (.cells #[v] 25)).heap.size = w.heap.size + 3 := by simp
  generalize (((w.alloc (.cells #[(.func (.func gf) #[] caps)] 76)).alloc (.cells #[.slice none 0 0] 30)).alloc (.cells #[v] 25)) = w1 at *
  have hsz1 : w.heap.size ≤ w1.heap.size := by omega
  refine wpIn_rangeFunc_ownH rfl (by omega) (gf := 97) (lb := #[.pointer (some ⟨w.heap.size + 1 + 1, 0, none⟩)]) rfl trivial (enters_of Tryd.func97 (by kernel_rfl) rfl)
    (back_stops (w.heap.size + 1 + 1) v l (fun q => q = w.heap.size + 1 + 1 ∨ blkOf v = some q) w1 dB hu (fun g hg => .inr hg) (.inl rfl) (by omega) hs) keptS.trans (keptS.put ?hKl) (Below.refl _ _) (fun _ => rfl)
    (GrI w w1.heap.size (.func (.func gf) #[] caps) p) (fun _ _ _ => False) (GrI.own w _ (.func (.func gf) #[] caps) p _ (by omega)) (fun _ _ _ _ _ h _ _ => h) ⟨⟨_, [], d1, GrO.nil _ _, rfl⟩, d0, k1, Nat.le_refl _⟩
    (fun x a' W => ∃ Bx, w1.heap.size ≤ Bx ∧ Blk W Bx 63 #[.int .u8 x.1.1.r, .int .u32 x.1.1.n, .string (bs x.1.1.s)] ∧ (∃ u P, Blk W (w.heap.size + 1) 30 #[u] ∧ Row W 2 u P.length (flat grc P) ∧ (∀ g, u.ownBlock = some g → g < Bx) ∧ ∀ i (h : i < P.length) g, P[i].2.ownBlock = some g → g < Bx) ∧ a' = { tmps := #[v, (.func (.func gf) #[] caps), undef, .pointer (some ⟨w.heap.size, 0, none⟩), .slice none 0 0, .pointer (some ⟨w.heap.size + 1, 0, none⟩), undef, .pointer (some ⟨Bx, 0, none⟩), undef, v, .func (.func 97) #[] #[.pointer (some ⟨w.heap.size + 1 + 1, 0, none⟩)], .int .i64 (x.1.2 : Int), .agg #[.int .u8 x.1.1.r, .int .u32 x.1.1.n, .string (bs x.1.1.s)], undef, undef, undef, undef, undef, undef, undef, undef, undef, undef, undef, undef, undef, undef, undef, undef, undef, undef, undef, undef, undef, undef, undef, undef, undef, undef, undef], defers := [] })
    (fun x a' _ X Y row hs hg hr => by obtain ⟨Bx, h1, h2, ⟨u, P, h4, h5, h6⟩, h3⟩ := hs; exact ⟨Bx, h1, h2.turned hg (fun r e => (hr r e).2), ⟨u, P, h4.turned hg (fun r e => (hr r e).2), Row.turned h5 hg (fun r e => (hr r e).2), h6⟩, h3⟩) ?assign ?body ?done ?stop
  case hKl =>
    intro q e
    rcases e with rfl | e
    · omega
    · have := Row.blk h q (OwnL.blkOf h q e); omega
  case assign =>
    rintro l0 pre x W K hi hK
    gi_wp2
    have hs2 := hi.size
    obtain ⟨u, P, hb', ho, _⟩ := hi.res
    have gA := (Frm.refl (fun _ => False) W).alloc (.cells #[.int .u8 x.1.1.r, .int .u32 x.1.1.n, .string (bs x.1.1.s)] 63)
    exact hK _ _ ((KeepsOthers.alloc _ _).from _) (fun q hq => Below.heap_alloc _ _ _ (by
      rcases hq with rfl | hq
      · omega
      · have := Row.blk h q (OwnL.blkOf h q hq); omega)) ((GrI.own w _ _ p _ hsz1).alloc _ hi) ⟨W.heap.size, hs2, Blk.alloc W _ _, ⟨u, P, hb'.keep gA (fun h => h), Row.keep ho.row gA (fun _ _ h => h), fun g e => Row.blk ho.row g e, fun i hi g e => Row.blk (ho.dots i hi) g e⟩, rfl⟩
  case body =>
    rintro l0 pre ⟨⟨y, iy⟩, hy⟩ a' wr hl hrec hi ⟨Bx, hBx, bX, ⟨u0, P0, hb0, hr0, hu0, hd0⟩, rfl⟩ hlt
    obtain ⟨u, P, hb', ho, hP⟩ := hi.res
    have eu : u0 = u := by
      unfold Blk at hb0 hb'
      rw [hb0] at hb'
      simpa using hb'
    subst eu
    obtain ⟨hl0, hv0⟩ := grs_vals ho.row hr0
    have hdx : ∀ i (h : i < P.length) g, P[i].2.ownBlock = some g → g < Bx := fun i h g e => hd0 i (by omega) g (by rw [← hv0 i h (by omega)]; exact e)
    clear hd0 hv0 hl0 hr0 hb0
    have hok := gok_fold (p := p) (pre.map (fun y => y.1.1)) [] 0 ⟨Nat.le_refl _, fun g h => (by cases h), fun g h => (by cases h)⟩ (fun z hz => by obtain ⟨q, _, rfl⟩ := List.mem_map.1 hz; exact q.2)
    rw [← hP, List.length_map, Nat.zero_add] at hok
    have hPl : P.length ≤ 1000 := by have := hok.len; rw [List.length_map] at this; omega
    have hPs : ∀ z ∈ P, z.1.s.length ≤ 200 := fun z hz => hok.s z.1 (List.mem_map.2 ⟨z, hz, rfl⟩)
    have hPd : ∀ z ∈ P, z.1.d.length ≤ 1000 := fun z hz => Nat.le_trans (hok.d z.1 (List.mem_map.2 ⟨z, hz, rfl⟩)) (by omega)
    obtain ⟨a, cap, rfl, hc1, hc2⟩ := Row.slice ho.row
    have hmf : ∀ (fn : Fn) (first cap : Array Value) (w : World), (Instr.makeFunc fn first cap).run Tryd.prog w = .ok (.func fn first cap) w := fun _ _ _ _ => rfl
    have HIX := Lib.hid (idx_any P (.slice a P.length cap) 73 #[.pointer (some ⟨w.heap.size, 0, none⟩), .pointer (some ⟨Bx, 0, none⟩)] (fun g => p g.s y.s) wr (Sl.ofRow ho.row) (enters_of Tryd.func73 (by kernel_rfl) rfl)
      (fun z hz W gW => gr1_any w.heap.size Bx z.1.s y.s z.2 _ _ (.func (.func gf) #[] caps) p W (hi.same.keep gW (fun h => h)) (bX.keep gW (fun h => h)) (hp.keep (hi.frm.trans gW)) (hPs z hz) hy))
    have c5 := hb'.cell 0 rfl
    have a3 := Tryd.isAgg30
    have z3 := Tryd.sizeOf30
    have HI := Lib.hid hi
    have HO := Lib.hid ho
    have HPP := Lib.hid hP
    have HBB := Lib.hid hb'
    have HBX := Lib.hid bX
    clear hrec hi ho hP bX hb' hok
    gi_wp2_with fail
    refine ⟨trivial, (CallsIn.inRound l0 (callsIn_wide.2 HIX.out)).mono ?_⟩
    rintro e W1 ⟨f1, hidx⟩
    have HF1 := Lib.hid f1
    clear HIX c5 f1
    rcases hidx with ⟨k, hk, rfl, hk1, hk2⟩ | ⟨rfl, hno⟩
    · have hk0 : ¬ ((k : Int) < 0) := by omega
      have HK1 := Lib.hid (addG_found (L := P.map Prod.fst) (x := y) (k := k) (by rw [List.length_map]; exact hk) (by rw [List.getElem_map]; exact hk1) (fun j hj hjk => by rw [List.getElem_map]; exact hk2 j (by rw [List.length_map] at hj; exact hj) hjk))
      clear hk1 hk2
      have HOB := Lib.hid (HO.out.keepF HF1.out)
      have HBBB := Lib.hid (HBB.out.keep HF1.out (fun h => h))
      have HKB := Lib.hid (HF1.out.others (fun _ _ h => h.elim))
      have HFB : Hid (Frm (fun q => q = w.heap.size + 1 ∨ w1.heap.size ≤ q) wr W1) := Lib.hid (HF1.out.mono fun _ _ h => h.elim)
      have HXB := Lib.hid (HBX.out.keep HF1.out (fun h => h))
      have HSZ : Hid (w1.heap.size ≤ W1.heap.size) := Lib.hid (Nat.le_trans HI.out.size HF1.out.size)
      have HMAP : Hid (addG p (P.map Prod.fst) y = (P.map Prod.fst).set k ⟨P[k].1.s, P[k].1.d ++ [y.d]⟩) := Lib.hid (by rw [HK1.out, List.getElem_map])
      obtain ⟨g, rfl, _, _⟩ := grs_at rfl HO.out.row hk
      have hgn := HO.out.lo g rfl
      have hgk : ∀ q, P[k].2.ownBlock = some q → w1.heap.size ≤ q ∧ q ≠ g := fun q e => ⟨HO.out.lod k hk q e, fun e2 => HO.out.apu k hk g rfl (by rw [← e2]; exact e)⟩
      have hBxP : ∀ q, P[k].2.ownBlock = some q → q ≠ Bx := fun q e => by have := hdx k hk q e; omega
      have hBxg : g ≠ Bx := by have := hu0 g rfl; omega
      have hD9 : P[k].1.d.length ≤ 1000 := hPd _ (List.getElem_mem hk)
      obtain ⟨Bg, hBg⟩ : ∃ Bg, w.heap.size + 1 = Bg := ⟨_, rfl⟩
      obtain ⟨n, hn⟩ : ∃ n, P.length = n := ⟨_, rfl⟩
      obtain ⟨vd, hvd⟩ : ∃ vd, P[k].2 = vd := ⟨_, rfl⟩
      obtain ⟨d, hd⟩ : ∃ d, P[k].1.d = d := ⟨_, rfl⟩
      have HPOST : Hid (∀ W0, Frm (fun _ => False) W1 W0 → ∀ v' W2, OwnE W2 v' (d ++ [y.d]) → (W0.alloc (.cells #[.int .u8 y.r, .int .u32 y.n] 61)).grownBy W2 vd.ownBlock → (∀ q, v'.ownBlock = some q → vd.ownBlock = some q ∨ (W0.alloc (.cells #[.int .u8 y.r, .int .u32 y.n] 61)).heap.size ≤ q) →
          KeepsFrom w1.heap.size wr (W2.setCell ⟨g, k * 2 + 1, none⟩ v') ∧ keptS (fun q => q = w.heap.size + 1 + 1 ∨ blkOf v = some q) wr (W2.setCell ⟨g, k * 2 + 1, none⟩ v') ∧ GrI w w1.heap.size (.func (.func gf) #[] caps) p (pre ++ [⟨(y, iy), hy⟩]) (W2.setCell ⟨g, k * 2 + 1, none⟩ v')) := Lib.hid fun W0 g0 v' W2 o1 o2 o3 => by
        subst hvd hd
        obtain ⟨q1, q2, q3⟩ := gr_dot rfl HOB.out hk g0 HSZ.out o1 o2 o3
        refine fin_of HI.out ?_ (by omega) HKB.out HFB.out q1 (q2.mono fun q _ e => ?_) ⟨_, _, HBBB.out.keep q2 ?_, q3, ?_⟩
        · intro q hq
          rcases hq with rfl | hq
          · omega
          · have := Row.blk h q (OwnL.blkOf h q hq); omega
        · rcases e with rfl | e
          · exact hgn
          · exact (hgk q e).1
        · intro e
          rcases e with e | e
          · omega
          · have := (hgk _ e).1; omega
        · rw [List.map_set, ← HPP.out, HMAP.out]
      have HG : Hid (∀ W, Frm (fun _ => False) W1 W → Blk W Bg 30 #[.slice (some ⟨g, 0, none⟩) n cap]) := Lib.hid fun W gW => by rw [← hBg, ← hn]; exact HBBB.out.keep gW (fun h => h)
      have HV : Hid (∀ W, Frm (fun _ => False) W1 W → W.cell? ⟨g, k * 2 + 1, none⟩ = some vd) := Lib.hid fun W gW => by
        obtain ⟨g9, e9, h9, _⟩ := grs_at rfl (HOB.out.keepF gW).row hk
        cases e9
        rw [← hvd]; exact h9
      have HX : Hid (∀ W, Frm (fun _ => False) W1 W → Blk W Bx 63 #[.int .u8 y.r, .int .u32 y.n, .string (bs y.s)]) := Lib.hid fun W gW => HXB.out.keep gW (fun h => h)
      have HOE : Hid (∀ W, Frm (fun _ => False) W1 W → OwnE W vd d) := Lib.hid fun W gW => by rw [← hvd, ← hd]; exact (HOB.out.dots k hk).keep gW (fun _ _ h => h)
      have HD : Hid (d.length ≤ 1000) := Lib.hid (by rw [← hd]; exact hD9)
      have HNE : Hid (∀ q, vd.ownBlock = some q → q ≠ Bg ∧ q ≠ Bx) := Lib.hid fun q e => by
        rw [← hvd] at e
        exact ⟨by have := (hgk q e).1; omega, hBxP q e⟩
      have HNG : Hid (g ≠ Bg ∧ g ≠ Bx) := Lib.hid ⟨by omega, hBxg⟩
      have HCS : Hid (∀ W0, Frm (fun _ => False) W1 W0 → ∀ W2, Frm (fun q => vd.ownBlock = some q) W0 W2 → W2.cell? ⟨g, k * 2 + 1, none⟩ = some vd ∧ W2.frozen? ⟨g, k * 2 + 1, none⟩ = false) := Lib.hid fun W0 g0 W2 g2 => by
        obtain ⟨g9, e9, h9, z9⟩ := grs_at rfl (Row.keep (Row.keep HOB.out.row g0 (fun _ _ h => h)) g2 (fun q e e2 => by cases e; rw [← hvd] at e2; exact (hgk _ e2).2 rfl)) hk
        cases e9
        rw [hvd] at h9
        exact ⟨h9, z9⟩
      have hki : (k : Int) < (n : Int) := by omega
      have hkk : (0 : Int) ≤ (k : Int) := by omega
      gi_wp2_with fail
      try rw [hn]
      try rw [hBg]
      clear hn hBg hvd hd
      refine wpIn_region_plain (by kernel_rfl) (by kernel_rfl) (by rintro ⟨_, _, h⟩; exact h) ?_
      refine wpAny_of_held (S := fun w' : World => w'.cell? ⟨Bg, 0, none⟩ = some (.slice (some ⟨g, 0, none⟩) n cap) ∧ w'.cell? ⟨Bx, 0, none⟩ = some (.int .u8 y.r) ∧ w'.cell? ⟨Bx, 1, none⟩ = some (.int .u32 y.n)) _ _ _ _ ?_
      have hHeld : W1.drew.cell? ⟨Bg, 0, none⟩ = some (.slice (some ⟨g, 0, none⟩) n cap) ∧ W1.drew.cell? ⟨Bx, 0, none⟩ = some (.int .u8 y.r) ∧ W1.drew.cell? ⟨Bx, 1, none⟩ = some (.int .u32 y.n) := ⟨(HG.out _ (Frm.refl _ _).drew).cell 0 rfl, (HX.out _ (Frm.refl _ _).drew).cell 0 rfl, (HX.out _ (Frm.refl _ _).drew).cell 1 rfl⟩
      have c1 : W1.drew.cell? ⟨g, k * 2 + 1, none⟩ = some vd := HV.out _ (Frm.refl _ _).drew
      obtain ⟨W0, hW0⟩ : ∃ W0, W1.drew = W0 := ⟨_, rfl⟩
      have gW0 : Frm (fun _ => False) W1 W0 := hW0 ▸ (Frm.refl _ _).drew
      rw [hW0] at hHeld c1 ⊢
      refine wpAnyH_take (i := 0) (v := ?_) rfl (by kernel_rfl) (by kernel_rfl) (by kernel_rfl) (fun _ _ _ h => h) (Or.inl ⟨by rfl, ?z0⟩) (by assumption) ?_
      case z0 =>
        intro w hSw
        (try dsimp only at hSw)
        go_simp
        try (with_reducible rfl)
      try simp only [Act.put, List.getElem_toArray, List.getElem_cons_zero, List.setIfInBounds_toArray, List.set_cons_zero, List.set_cons_succ]
      refine wpAnyH_take (i := 1) (v := ?_) rfl (by kernel_rfl) (by kernel_rfl) (by kernel_rfl) (fun _ _ _ h => h) (Or.inl ⟨by rfl, ?z1⟩) (by assumption) ?_
      case z1 =>
        intro w hSw
        (try dsimp only at hSw)
        go_simp
        try (with_reducible rfl)
      try simp only [Act.put, List.getElem_toArray, List.getElem_cons_zero, List.getElem_cons_succ, List.setIfInBounds_toArray, List.set_cons_zero, List.set_cons_succ]
      refine wpAnyH_take (i := 2) (v := ?_) rfl (by kernel_rfl) (by kernel_rfl) (by kernel_rfl) (fun _ _ _ h => h) (Or.inl ⟨by rfl, ?z2⟩) (by assumption) ?_
      case z2 =>
        intro w hSw
        (try dsimp only at hSw)
        go_simp
        try (with_reducible rfl)
      try simp only [Act.put, List.getElem_toArray, List.getElem_cons_zero, List.getElem_cons_succ, List.setIfInBounds_toArray, List.set_cons_zero, List.set_cons_succ]
      refine wpAnyH_take (i := 3) (v := ?_) rfl (by kernel_rfl) (by kernel_rfl) (by kernel_rfl) (fun _ _ _ h => h) (Or.inl ⟨by rfl, ?z3⟩) (by assumption) ?_
      case z3 =>
        intro w hSw
        (try dsimp only at hSw)
        go_simp
        try (with_reducible rfl)
      try simp only [Act.put, List.getElem_toArray, List.getElem_cons_zero, List.getElem_cons_succ, List.setIfInBounds_toArray, List.set_cons_zero, List.set_cons_succ]
      refine wpAnyH_take (i := 4) (v := ?_) rfl (by kernel_rfl) (by kernel_rfl) (by kernel_rfl) (fun _ _ _ h => h) (Or.inl ⟨by rfl, ?z4⟩) (by assumption) ?_
      case z4 =>
        intro w hSw
        (try dsimp only at hSw)
        go_simp
        try (with_reducible rfl)
      try simp only [Act.put, List.getElem_toArray, List.getElem_cons_zero, List.getElem_cons_succ, List.setIfInBounds_toArray, List.set_cons_zero, List.set_cons_succ]
      refine wpAnyH_take (i := 5) (v := ?_) rfl (by kernel_rfl) (by kernel_rfl) (by kernel_rfl) (fun _ _ _ h => h) (Or.inl ⟨by rfl, ?z5⟩) (by assumption) ?_
      case z5 =>
        intro w hSw
        (try dsimp only at hSw)
        go_simp
        try (with_reducible rfl)
      try simp only [Act.put, List.getElem_toArray, List.getElem_cons_zero, List.getElem_cons_succ, List.setIfInBounds_toArray, List.set_cons_zero, List.set_cons_succ]
      refine wpAnyH_take (i := 7) (v := ?_) rfl (by kernel_rfl) (by kernel_rfl) (by kernel_rfl) (fun _ _ _ h => h) (Or.inl ⟨by rfl, ?z7⟩) (by assumption) ?_
      case z7 =>
        intro w hSw
        (try dsimp only at hSw)
        go_simp
        try (with_reducible rfl)
      try simp only [Act.put, List.getElem_toArray, List.getElem_cons_zero, List.getElem_cons_succ, List.setIfInBounds_toArray, List.set_cons_zero, List.set_cons_succ]
      refine wpAnyH_take (i := 8) (v := ?_) rfl (by kernel_rfl) (by kernel_rfl) (by kernel_rfl) (fun _ _ _ h => h) (Or.inl ⟨by rfl, ?z8⟩) (by assumption) ?_
      case z8 =>
        intro w hSw
        (try dsimp only at hSw)
        go_simp
        try (with_reducible rfl)
      try simp only [Act.put, List.getElem_toArray, List.getElem_cons_zero, List.getElem_cons_succ, List.setIfInBounds_toArray, List.set_cons_zero, List.set_cons_succ]
      refine wpAnyH_ready (rs := [6, 9]) (by kernel_rfl) (by simp) (AllReadyH.cons rfl (fun K hK => ?_) (AllReadyH.cons rfl (fun K hK => ?_) AllReadyH.nil))
      · go_simp
        refine hK.out _ _ hHeld (fun _ => ?_)
        clear hK K
        try simp only [Act.put, List.getElem_toArray, List.getElem_cons_zero, List.getElem_cons_succ, List.setIfInBounds_toArray, List.set_cons_zero, List.set_cons_succ]
        refine wpAnyH_ready (rs := [9]) (by kernel_rfl) (by simp) (AllReadyH.cons rfl (fun K hK => ?_) AllReadyH.nil)
        go_simp
        refine hK.out _ _ ⟨Frm.cellA hHeld.1, Frm.cellA hHeld.2.1, Frm.cellA hHeld.2.2⟩ (fun _ => ?_)
        clear hK K
        try simp only [Act.put, List.getElem_toArray, List.getElem_cons_zero, List.getElem_cons_succ, List.setIfInBounds_toArray, List.set_cons_zero, List.set_cons_succ]
        have hH2 := hHeld
        have gA : Frm (fun _ => False) W0 (W0.alloc (.cells #[.int .u8 y.r, .int .u32 y.n] 61)) := (Frm.refl _ _).alloc _
        have oA := (HOE.out _ gW0).keep gA (fun _ _ h => h)
        obtain ⟨v', W1, hrun, hown, hgr, hnew⟩ := append_dotsE (W0.alloc (.cells #[.int .u8 y.r, .int .u32 y.n] 61)) vd (.slice (some ⟨W0.heap.size, 0, none⟩) 1 1) d [y.d] oA (Sl.built dotc dotc_len W0 61 y.d #[.int .u8 y.r, .int .u32 y.n] rfl) (by have := HD.out; simp; omega)
        obtain ⟨a9, c9, rfl, _, _⟩ := Row.slice hown
        have el : (d ++ [y.d]).length = d.length + 1 := by simp
        rw [el] at hrun hown hnew
        clear el
        have Hrun := Lib.hid hrun
        have HP9 := Lib.hid (HPOST.out W0 gW0 _ W1 hown hgr hnew)
        have hg1 : Frm (fun q => vd.ownBlock = some q) W0 W1 := (gA.mono fun _ _ h => h.elim).grown hgr (fun _ _ e => e)
        have hS1 : W1.cell? ⟨Bg, 0, none⟩ = some (.slice (some ⟨g, 0, none⟩) n cap) ∧ W1.cell? ⟨Bx, 0, none⟩ = some (.int .u8 y.r) ∧ W1.cell? ⟨Bx, 1, none⟩ = some (.int .u32 y.n) := ⟨((HG.out _ gW0).keep hg1 (fun e => (HNE.out _ e).1 rfl)).cell 0 rfl, ((HX.out _ gW0).keep hg1 (fun e => (HNE.out _ e).2 rfl)).cell 0 rfl, ((HX.out _ gW0).keep hg1 (fun e => (HNE.out _ e).2 rfl)).cell 1 rfl⟩
        have cS := HCS.out W0 gW0 W1 hg1
        clear hrun hown hgr hnew oA hg1 c1 hHeld hH2
        refine wpAnyH_ready (rs := [10]) (by kernel_rfl) (by simp) (AllReadyH.cons rfl (fun K hK => ?_) AllReadyH.nil)
        refine step_append_runR rfl _ _ _ _ rfl _ _ (by rfl) (by rfl) _ W1 Hrun.out ?_
        refine hK.out _ _ hS1 (fun hHeld => ?_)
        clear hK K
        try simp only [Act.put, List.getElem_toArray, List.getElem_cons_zero, List.getElem_cons_succ, List.setIfInBounds_toArray, List.set_cons_zero, List.set_cons_succ]
        refine wpAnyH_take (i := 11) (v := ?_) rfl (by kernel_rfl) (by kernel_rfl) (by kernel_rfl) (fun _ _ _ h => h) (Or.inl ⟨by rfl, ?z11⟩) (by assumption) ?_
        case z11 =>
          intro w hSw
          (try dsimp only at hSw)
          go_simp
          try (with_reducible rfl)
        try simp only [Act.put, List.getElem_toArray, List.getElem_cons_zero, List.getElem_cons_succ, List.setIfInBounds_toArray, List.set_cons_zero, List.set_cons_succ]
        refine wpAnyH_take (i := 12) (v := ?_) rfl (by kernel_rfl) (by kernel_rfl) (by kernel_rfl) (fun _ _ _ h => h) (Or.inl ⟨by rfl, ?z12⟩) (by assumption) ?_
        case z12 =>
          intro w hSw
          (try dsimp only at hSw)
          go_simp
          try (with_reducible rfl)
        try simp only [Act.put, List.getElem_toArray, List.getElem_cons_zero, List.getElem_cons_succ, List.setIfInBounds_toArray, List.set_cons_zero, List.set_cons_succ]
        refine wpAnyH_ready (rs := [13]) (by kernel_rfl) (by simp) (AllReadyH.cons rfl (fun K hK => ?_) AllReadyH.nil)
        go_simp
        refine hK.out _ _ ?_ (fun hHeld2 => ?_)
        · refine ⟨?_, ?_, ?_⟩
          · rw [World.cell?_setCell_other _ _ _ _ (fun h => HNG.out.1 (Addr.mk.inj h).1)]; exact hS1.1
          · rw [World.cell?_setCell_other _ _ _ _ (fun h => HNG.out.2 (Addr.mk.inj h).1)]; exact hS1.2.1
          · rw [World.cell?_setCell_other _ _ _ _ (fun h => HNG.out.2 (Addr.mk.inj h).1)]; exact hS1.2.2
        clear hK K
        refine wpAnyH_done (by kernel_rfl) ?_ _
        exact HP9.out
      · go_simp
        refine hK.out _ _ ⟨Frm.cellA hHeld.1, Frm.cellA hHeld.2.1, Frm.cellA hHeld.2.2⟩ (fun _ => ?_)
        clear hK K
        try simp only [Act.put, List.getElem_toArray, List.getElem_cons_zero, List.getElem_cons_succ, List.setIfInBounds_toArray, List.set_cons_zero, List.set_cons_succ]
        refine wpAnyH_ready (rs := [6]) (by kernel_rfl) (by simp) (AllReadyH.cons rfl (fun K hK => ?_) AllReadyH.nil)
        have c2 := Frm.cellA (o := .cells #[.int .u8 y.r, .int .u32 y.n] 61) c1
        go_simp
        refine hK.out _ _ ⟨Frm.cellA hHeld.1, Frm.cellA hHeld.2.1, Frm.cellA hHeld.2.2⟩ (fun _ => ?_)
        clear hK K c2
        try simp only [Act.put, List.getElem_toArray, List.getElem_cons_zero, List.getElem_cons_succ, List.setIfInBounds_toArray, List.set_cons_zero, List.set_cons_succ]
        have hH2 := hHeld
        have gA : Frm (fun _ => False) W0 (W0.alloc (.cells #[.int .u8 y.r, .int .u32 y.n] 61)) := (Frm.refl _ _).alloc _
        have oA := (HOE.out _ gW0).keep gA (fun _ _ h => h)
        obtain ⟨v', W1, hrun, hown, hgr, hnew⟩ := append_dotsE (W0.alloc (.cells #[.int .u8 y.r, .int .u32 y.n] 61)) vd (.slice (some ⟨W0.heap.size, 0, none⟩) 1 1) d [y.d] oA (Sl.built dotc dotc_len W0 61 y.d #[.int .u8 y.r, .int .u32 y.n] rfl) (by have := HD.out; simp; omega)
        obtain ⟨a9, c9, rfl, _, _⟩ := Row.slice hown
        have el : (d ++ [y.d]).length = d.length + 1 := by simp
        rw [el] at hrun hown hnew
        clear el
        have Hrun := Lib.hid hrun
        have HP9 := Lib.hid (HPOST.out W0 gW0 _ W1 hown hgr hnew)
        have hg1 : Frm (fun q => vd.ownBlock = some q) W0 W1 := (gA.mono fun _ _ h => h.elim).grown hgr (fun _ _ e => e)
        have hS1 : W1.cell? ⟨Bg, 0, none⟩ = some (.slice (some ⟨g, 0, none⟩) n cap) ∧ W1.cell? ⟨Bx, 0, none⟩ = some (.int .u8 y.r) ∧ W1.cell? ⟨Bx, 1, none⟩ = some (.int .u32 y.n) := ⟨((HG.out _ gW0).keep hg1 (fun e => (HNE.out _ e).1 rfl)).cell 0 rfl, ((HX.out _ gW0).keep hg1 (fun e => (HNE.out _ e).2 rfl)).cell 0 rfl, ((HX.out _ gW0).keep hg1 (fun e => (HNE.out _ e).2 rfl)).cell 1 rfl⟩
        have cS := HCS.out W0 gW0 W1 hg1
        clear hrun hown hgr hnew oA hg1 c1 hHeld hH2
        refine wpAnyH_ready (rs := [10]) (by kernel_rfl) (by simp) (AllReadyH.cons rfl (fun K hK => ?_) AllReadyH.nil)
        refine step_append_runR rfl _ _ _ _ rfl _ _ (by rfl) (by rfl) _ W1 Hrun.out ?_
        refine hK.out _ _ hS1 (fun hHeld => ?_)
        clear hK K
        try simp only [Act.put, List.getElem_toArray, List.getElem_cons_zero, List.getElem_cons_succ, List.setIfInBounds_toArray, List.set_cons_zero, List.set_cons_succ]
        refine wpAnyH_take (i := 11) (v := ?_) rfl (by kernel_rfl) (by kernel_rfl) (by kernel_rfl) (fun _ _ _ h => h) (Or.inl ⟨by rfl, ?z11⟩) (by assumption) ?_
        case z11 =>
          intro w hSw
          (try dsimp only at hSw)
          go_simp
          try (with_reducible rfl)
        try simp only [Act.put, List.getElem_toArray, List.getElem_cons_zero, List.getElem_cons_succ, List.setIfInBounds_toArray, List.set_cons_zero, List.set_cons_succ]
        refine wpAnyH_take (i := 12) (v := ?_) rfl (by kernel_rfl) (by kernel_rfl) (by kernel_rfl) (fun _ _ _ h => h) (Or.inl ⟨by rfl, ?z12⟩) (by assumption) ?_
        case z12 =>
          intro w hSw
          (try dsimp only at hSw)
          go_simp
          try (with_reducible rfl)
        try simp only [Act.put, List.getElem_toArray, List.getElem_cons_zero, List.getElem_cons_succ, List.setIfInBounds_toArray, List.set_cons_zero, List.set_cons_succ]
        refine wpAnyH_ready (rs := [13]) (by kernel_rfl) (by simp) (AllReadyH.cons rfl (fun K hK => ?_) AllReadyH.nil)
        go_simp
        refine hK.out _ _ ?_ (fun hHeld2 => ?_)
        · refine ⟨?_, ?_, ?_⟩
          · rw [World.cell?_setCell_other _ _ _ _ (fun h => HNG.out.1 (Addr.mk.inj h).1)]; exact hS1.1
          · rw [World.cell?_setCell_other _ _ _ _ (fun h => HNG.out.2 (Addr.mk.inj h).1)]; exact hS1.2.1
          · rw [World.cell?_setCell_other _ _ _ _ (fun h => HNG.out.2 (Addr.mk.inj h).1)]; exact hS1.2.2
        clear hK K
        refine wpAnyH_done (by kernel_rfl) ?_ _
        exact HP9.out
    · have HK1 := Lib.hid (addG_new (L := P.map Prod.fst) (x := y) (fun j hj => by rw [List.getElem_map]; exact hno j (by rw [List.length_map] at hj; exact hj)))
      clear hno
      have fA : Frm (fun _ => False) wr (W1.alloc (.cells #[.string (bs y.s), .slice none 0 0] 41)) := HF1.out.alloc _
      obtain ⟨v', W2, hrun, hrow, hgr, hnew⟩ := append_grps (W1.alloc (.cells #[.string (bs y.s), .slice none 0 0] 41)) (.slice a P.length cap) (.slice (some ⟨W1.heap.size, 0, none⟩) 1 1) P [((⟨y.s, []⟩ : GrpI), Value.slice none 0 0)] (Row.keep HO.out.row fA (fun _ _ h => h)) (Sl.built grc grc_len W1 41 ((⟨y.s, []⟩ : GrpI), Value.slice none 0 0) #[.string (bs y.s), .slice none 0 0] rfl) (fun q hq => by simp [flat, grc] at hq; rcases hq with rfl | rfl <;> rfl) (by simp; omega)
      obtain ⟨a2, cap2, rfl, _, _⟩ := Row.slice hrow
      have Hrun := Lib.hid hrun
      have c5 := (HBB.out.keep HF1.out (fun h => h)).cell 0 rfl
      have cx := (HBX.out.keep HF1.out (fun h => h)).cell 2 rfl
      have hb2 : Blk W2 (w.heap.size + 1) 30 #[.slice a P.length cap] := (HBB.out.keep fA (fun h => h)).keep ((Frm.refl (fun q => Value.ownBlock (.slice a P.length cap) = some q) _).grown hgr (fun q _ e => e)) (fun e => by have := HO.out.lo _ e; omega)
      have cl2 := hb2.cell 0 rfl
      have fl2 := hb2.free 0
      clear hrun
      gi_wp2_with (refine wplIn_append rfl _ _ _ _ rfl _ _ rfl rfl _ _ Hrun.out ?_)
      obtain ⟨P2, hP2⟩ : ∃ P2, P ++ [((⟨y.s, []⟩ : GrpI), Value.slice none 0 0)] = P2 := ⟨_, rfl⟩
      have ho2 := (HO.out.keepF fA).push y.s hrow hgr hnew (Nat.le_trans HI.out.size fA.size)
      have fX : Frm (fun q => Value.ownBlock (.slice a P.length cap) = some q) wr W2 := (fA.mono (fun _ _ h => h.elim)).grown hgr (fun q _ e => e)
      have hnew2 : ∀ q, Value.ownBlock (.slice a2 (P ++ [((⟨y.s, []⟩ : GrpI), Value.slice none 0 0)]).length cap2) = some q → q < Bx ∨ Bx < q := fun q e => by
        have := HBX.out.lt
        have := fA.size
        rcases hnew q e with h9 | h9
        · exact .inl (hu0 q h9)
        · have := HF1.out.size
          simp at h9
          exact .inr (by omega)
      obtain ⟨k, hkk0⟩ : ∃ k, P.length = k := ⟨_, rfl⟩
      have hk : k < P2.length := by rw [← hP2, ← hkk0]; simp
      have eP : P2[k] = ((⟨y.s, []⟩ : GrpI), Value.slice none 0 0) := by
        subst hP2 hkk0
        simp
      have el : (P ++ [((⟨y.s, []⟩ : GrpI), Value.slice none 0 0)]).length = P2.length := by rw [hP2]
      have hmap : addG p (P.map Prod.fst) y = (P2.map Prod.fst).set k ⟨P2[k].1.s, P2[k].1.d ++ [y.d]⟩ := by
        rw [HK1.out, eP, ← hP2, ← hkk0]
        simp
      rw [hP2] at ho2
      rw [el] at hnew2
      have el1 : P2.length = P.length + 1 := by rw [← hP2]; simp
      obtain ⟨Wb, hWb⟩ : ∃ Wb, W2.setCell ⟨w.heap.size + 1, 0, none⟩ (.slice a2 (P.length + 1) cap2) = Wb := ⟨_, rfl⟩
      have fs : Frm (fun q => q = w.heap.size + 1) W2 Wb := hWb ▸ (Frm.refl (fun q => q = w.heap.size + 1) W2).setCell (p := ⟨w.heap.size + 1, 0, none⟩) (fun _ => rfl) _
      have hbb : Blk Wb (w.heap.size + 1) 30 #[.slice a2 P2.length cap2] := by
        rw [← hWb, el1]
        exact hb2.set 0 _
      have fXW : Frm (fun q => q = w.heap.size + 1 ∨ Value.ownBlock (.slice a P.length cap) = some q) wr Wb := (fX.mono fun _ _ h => .inr h).trans (fs.mono fun _ _ h => .inl h)
      have HOB := Lib.hid (ho2.keep fs (fun q e e2 => by have := ho2.lo q e; omega) (fun i hi q e e2 => by have := ho2.lod i hi q e; omega))
      have HBBB := Lib.hid hbb
      have HKB := Lib.hid (fXW.others fun q o hq ho3 => by
        rcases hq with rfl | hq
        · exact HBB.out.isCells _ o rfl ho3
        · exact Row.isCellsR HO.out.row q o hq ho3)
      have HFB : Hid (Frm (fun q => q = w.heap.size + 1 ∨ w1.heap.size ≤ q) wr Wb) := Lib.hid (fXW.mono fun q _ h => h.imp id (fun e => HO.out.lo q e))
      have HXB := Lib.hid (HBX.out.keep fXW (fun e => by
        rcases e with e | e
        · omega
        · have := hu0 _ e; omega))
      have HSZ : Hid (w1.heap.size ≤ Wb.heap.size) := Lib.hid (Nat.le_trans HI.out.size fXW.size)
      have HMAP := Lib.hid hmap
      rw [hWb]
      clear hWb fs hbb fXW fX ho2 hb2 cl2 fl2 hgr hrow hnew fA c5 cx Hrun hmap
      obtain ⟨g, rfl, _, _⟩ := grs_at rfl HOB.out.row hk
      have hgn := HOB.out.lo g rfl
      have hgk : ∀ q, P2[k].2.ownBlock = some q → w1.heap.size ≤ q ∧ q ≠ g := fun q e => by rw [eP] at e; cases e
      have hBxP : ∀ q, P2[k].2.ownBlock = some q → q ≠ Bx := fun q e => by rw [eP] at e; cases e
      have hBxg : g ≠ Bx := by have := hnew2 g rfl; omega
      have hD9 : P2[k].1.d.length ≤ 1000 := by rw [eP]; simp
      rw [hkk0]
      clear hP2 eP el el1 hnew2
      obtain ⟨Bg, hBg⟩ : ∃ Bg, w.heap.size + 1 = Bg := ⟨_, rfl⟩
      obtain ⟨n, hn⟩ : ∃ n, P2.length = n := ⟨_, rfl⟩
      obtain ⟨vd, hvd⟩ : ∃ vd, P2[k].2 = vd := ⟨_, rfl⟩
      obtain ⟨d, hd⟩ : ∃ d, P2[k].1.d = d := ⟨_, rfl⟩
      have HPOST : Hid (∀ W0, Frm (fun _ => False) Wb W0 → ∀ v' W2, OwnE W2 v' (d ++ [y.d]) → (W0.alloc (.cells #[.int .u8 y.r, .int .u32 y.n] 61)).grownBy W2 vd.ownBlock → (∀ q, v'.ownBlock = some q → vd.ownBlock = some q ∨ (W0.alloc (.cells #[.int .u8 y.r, .int .u32 y.n] 61)).heap.size ≤ q) →
          KeepsFrom w1.heap.size wr (W2.setCell ⟨g, k * 2 + 1, none⟩ v') ∧ keptS (fun q => q = w.heap.size + 1 + 1 ∨ blkOf v = some q) wr (W2.setCell ⟨g, k * 2 + 1, none⟩ v') ∧ GrI w w1.heap.size (.func (.func gf) #[] caps) p (pre ++ [⟨(y, iy), hy⟩]) (W2.setCell ⟨g, k * 2 + 1, none⟩ v')) := Lib.hid fun W0 g0 v' W2 o1 o2 o3 => by
        subst hvd hd
        obtain ⟨q1, q2, q3⟩ := gr_dot rfl HOB.out hk g0 HSZ.out o1 o2 o3
        refine fin_of HI.out ?_ (by omega) HKB.out HFB.out q1 (q2.mono fun q _ e => ?_) ⟨_, _, HBBB.out.keep q2 ?_, q3, ?_⟩
        · intro q hq
          rcases hq with rfl | hq
          · omega
          · have := Row.blk h q (OwnL.blkOf h q hq); omega
        · rcases e with rfl | e
          · exact hgn
          · exact (hgk q e).1
        · intro e
          rcases e with e | e
          · omega
          · have := (hgk _ e).1; omega
        · rw [List.map_set, ← HPP.out, HMAP.out]
      have HG : Hid (∀ W, Frm (fun _ => False) Wb W → Blk W Bg 30 #[.slice (some ⟨g, 0, none⟩) n cap2]) := Lib.hid fun W gW => by rw [← hBg, ← hn]; exact HBBB.out.keep gW (fun h => h)
      have HV : Hid (∀ W, Frm (fun _ => False) Wb W → W.cell? ⟨g, k * 2 + 1, none⟩ = some vd) := Lib.hid fun W gW => by
        obtain ⟨g9, e9, h9, _⟩ := grs_at rfl (HOB.out.keepF gW).row hk
        cases e9
        rw [← hvd]; exact h9
      have HX : Hid (∀ W, Frm (fun _ => False) Wb W → Blk W Bx 63 #[.int .u8 y.r, .int .u32 y.n, .string (bs y.s)]) := Lib.hid fun W gW => HXB.out.keep gW (fun h => h)
      have HOE : Hid (∀ W, Frm (fun _ => False) Wb W → OwnE W vd d) := Lib.hid fun W gW => by rw [← hvd, ← hd]; exact (HOB.out.dots k hk).keep gW (fun _ _ h => h)
      have HD : Hid (d.length ≤ 1000) := Lib.hid (by rw [← hd]; exact hD9)
      have HNE : Hid (∀ q, vd.ownBlock = some q → q ≠ Bg ∧ q ≠ Bx) := Lib.hid fun q e => by
        rw [← hvd] at e
        exact ⟨by have := (hgk q e).1; omega, hBxP q e⟩
      have HNG : Hid (g ≠ Bg ∧ g ≠ Bx) := Lib.hid ⟨by omega, hBxg⟩
      have HCS : Hid (∀ W0, Frm (fun _ => False) Wb W0 → ∀ W2, Frm (fun q => vd.ownBlock = some q) W0 W2 → W2.cell? ⟨g, k * 2 + 1, none⟩ = some vd ∧ W2.frozen? ⟨g, k * 2 + 1, none⟩ = false) := Lib.hid fun W0 g0 W2 g2 => by
        obtain ⟨g9, e9, h9, z9⟩ := grs_at rfl (Row.keep (Row.keep HOB.out.row g0 (fun _ _ h => h)) g2 (fun q e e2 => by cases e; rw [← hvd] at e2; exact (hgk _ e2).2 rfl)) hk
        cases e9
        rw [hvd] at h9
        exact ⟨h9, z9⟩
      have hki : (k : Int) < (n : Int) := by omega
      have hkk : (0 : Int) ≤ (k : Int) := by omega
      gi_wp2_with fail
      try rw [hn]
      try rw [hBg]
      clear hn hBg hvd hd
      refine wpIn_region_plain (by kernel_rfl) (by kernel_rfl) (by rintro ⟨_, _, h⟩; exact h) ?_
      refine wpAny_of_held (S := fun w' : World => w'.cell? ⟨Bg, 0, none⟩ = some (.slice (some ⟨g, 0, none⟩) n cap2) ∧ w'.cell? ⟨Bx, 0, none⟩ = some (.int .u8 y.r) ∧ w'.cell? ⟨Bx, 1, none⟩ = some (.int .u32 y.n)) _ _ _ _ ?_
      have hHeld : Wb.drew.cell? ⟨Bg, 0, none⟩ = some (.slice (some ⟨g, 0, none⟩) n cap2) ∧ Wb.drew.cell? ⟨Bx, 0, none⟩ = some (.int .u8 y.r) ∧ Wb.drew.cell? ⟨Bx, 1, none⟩ = some (.int .u32 y.n) := ⟨(HG.out _ (Frm.refl _ _).drew).cell 0 rfl, (HX.out _ (Frm.refl _ _).drew).cell 0 rfl, (HX.out _ (Frm.refl _ _).drew).cell 1 rfl⟩
      have c1 : Wb.drew.cell? ⟨g, k * 2 + 1, none⟩ = some vd := HV.out _ (Frm.refl _ _).drew
      obtain ⟨W0, hW0⟩ : ∃ W0, Wb.drew = W0 := ⟨_, rfl⟩
      have gW0 : Frm (fun _ => False) Wb W0 := hW0 ▸ (Frm.refl _ _).drew
      rw [hW0] at hHeld c1 ⊢
      refine wpAnyH_take (i := 0) (v := ?_) rfl (by kernel_rfl) (by kernel_rfl) (by kernel_rfl) (fun _ _ _ h => h) (Or.inl ⟨by rfl, ?z0⟩) (by assumption) ?_
      case z0 =>
        intro w hSw
        (try dsimp only at hSw)
        go_simp
        try (with_reducible rfl)
      try simp only [Act.put, List.getElem_toArray, List.getElem_cons_zero, List.setIfInBounds_toArray, List.set_cons_zero, List.set_cons_succ]
      refine wpAnyH_take (i := 1) (v := ?_) rfl (by kernel_rfl) (by kernel_rfl) (by kernel_rfl) (fun _ _ _ h => h) (Or.inl ⟨by rfl, ?z1⟩) (by assumption) ?_
      case z1 =>
        intro w hSw
        (try dsimp only at hSw)
        go_simp
        try (with_reducible rfl)
      try simp only [Act.put, List.getElem_toArray, List.getElem_cons_zero, List.getElem_cons_succ, List.setIfInBounds_toArray, List.set_cons_zero, List.set_cons_succ]
      refine wpAnyH_take (i := 2) (v := ?_) rfl (by kernel_rfl) (by kernel_rfl) (by kernel_rfl) (fun _ _ _ h => h) (Or.inl ⟨by rfl, ?z2⟩) (by assumption) ?_
      case z2 =>
        intro w hSw
        (try dsimp only at hSw)
        go_simp
        try (with_reducible rfl)
      try simp only [Act.put, List.getElem_toArray, List.getElem_cons_zero, List.getElem_cons_succ, List.setIfInBounds_toArray, List.set_cons_zero, List.set_cons_succ]
      refine wpAnyH_take (i := 3) (v := ?_) rfl (by kernel_rfl) (by kernel_rfl) (by kernel_rfl) (fun _ _ _ h => h) (Or.inl ⟨by rfl, ?z3⟩) (by assumption) ?_
      case z3 =>
        intro w hSw
        (try dsimp only at hSw)
        go_simp
        try (with_reducible rfl)
      try simp only [Act.put, List.getElem_toArray, List.getElem_cons_zero, List.getElem_cons_succ, List.setIfInBounds_toArray, List.set_cons_zero, List.set_cons_succ]
      refine wpAnyH_take (i := 4) (v := ?_) rfl (by kernel_rfl) (by kernel_rfl) (by kernel_rfl) (fun _ _ _ h => h) (Or.inl ⟨by rfl, ?z4⟩) (by assumption) ?_
      case z4 =>
        intro w hSw
        (try dsimp only at hSw)
        go_simp
        try (with_reducible rfl)
      try simp only [Act.put, List.getElem_toArray, List.getElem_cons_zero, List.getElem_cons_succ, List.setIfInBounds_toArray, List.set_cons_zero, List.set_cons_succ]
      refine wpAnyH_take (i := 5) (v := ?_) rfl (by kernel_rfl) (by kernel_rfl) (by kernel_rfl) (fun _ _ _ h => h) (Or.inl ⟨by rfl, ?z5⟩) (by assumption) ?_
      case z5 =>
        intro w hSw
        (try dsimp only at hSw)
        go_simp
        try (with_reducible rfl)
      try simp only [Act.put, List.getElem_toArray, List.getElem_cons_zero, List.getElem_cons_succ, List.setIfInBounds_toArray, List.set_cons_zero, List.set_cons_succ]
      refine wpAnyH_take (i := 7) (v := ?_) rfl (by kernel_rfl) (by kernel_rfl) (by kernel_rfl) (fun _ _ _ h => h) (Or.inl ⟨by rfl, ?z7⟩) (by assumption) ?_
      case z7 =>
        intro w hSw
        (try dsimp only at hSw)
        go_simp
        try (with_reducible rfl)
      try simp only [Act.put, List.getElem_toArray, List.getElem_cons_zero, List.getElem_cons_succ, List.setIfInBounds_toArray, List.set_cons_zero, List.set_cons_succ]
      refine wpAnyH_take (i := 8) (v := ?_) rfl (by kernel_rfl) (by kernel_rfl) (by kernel_rfl) (fun _ _ _ h => h) (Or.inl ⟨by rfl, ?z8⟩) (by assumption) ?_
      case z8 =>
        intro w hSw
        (try dsimp only at hSw)
        go_simp
        try (with_reducible rfl)
      try simp only [Act.put, List.getElem_toArray, List.getElem_cons_zero, List.getElem_cons_succ, List.setIfInBounds_toArray, List.set_cons_zero, List.set_cons_succ]
      refine wpAnyH_ready (rs := [6, 9]) (by kernel_rfl) (by simp) (AllReadyH.cons rfl (fun K hK => ?_) (AllReadyH.cons rfl (fun K hK => ?_) AllReadyH.nil))
      · go_simp
        refine hK.out _ _ hHeld (fun _ => ?_)
        clear hK K
        try simp only [Act.put, List.getElem_toArray, List.getElem_cons_zero, List.getElem_cons_succ, List.setIfInBounds_toArray, List.set_cons_zero, List.set_cons_succ]
        refine wpAnyH_ready (rs := [9]) (by kernel_rfl) (by simp) (AllReadyH.cons rfl (fun K hK => ?_) AllReadyH.nil)
        go_simp
        refine hK.out _ _ ⟨Frm.cellA hHeld.1, Frm.cellA hHeld.2.1, Frm.cellA hHeld.2.2⟩ (fun _ => ?_)
        clear hK K
        try simp only [Act.put, List.getElem_toArray, List.getElem_cons_zero, List.getElem_cons_succ, List.setIfInBounds_toArray, List.set_cons_zero, List.set_cons_succ]
        have hH2 := hHeld
        have gA : Frm (fun _ => False) W0 (W0.alloc (.cells #[.int .u8 y.r, .int .u32 y.n] 61)) := (Frm.refl _ _).alloc _
        have oA := (HOE.out _ gW0).keep gA (fun _ _ h => h)
        obtain ⟨v', W1, hrun, hown, hgr, hnew⟩ := append_dotsE (W0.alloc (.cells #[.int .u8 y.r, .int .u32 y.n] 61)) vd (.slice (some ⟨W0.heap.size, 0, none⟩) 1 1) d [y.d] oA (Sl.built dotc dotc_len W0 61 y.d #[.int .u8 y.r, .int .u32 y.n] rfl) (by have := HD.out; simp; omega)
        obtain ⟨a9, c9, rfl, _, _⟩ := Row.slice hown
        have el : (d ++ [y.d]).length = d.length + 1 := by simp
        rw [el] at hrun hown hnew
        clear el
        have Hrun := Lib.hid hrun
        have HP9 := Lib.hid (HPOST.out W0 gW0 _ W1 hown hgr hnew)
        have hg1 : Frm (fun q => vd.ownBlock = some q) W0 W1 := (gA.mono fun _ _ h => h.elim).grown hgr (fun _ _ e => e)
        have hS1 : W1.cell? ⟨Bg, 0, none⟩ = some (.slice (some ⟨g, 0, none⟩) n cap2) ∧ W1.cell? ⟨Bx, 0, none⟩ = some (.int .u8 y.r) ∧ W1.cell? ⟨Bx, 1, none⟩ = some (.int .u32 y.n) := ⟨((HG.out _ gW0).keep hg1 (fun e => (HNE.out _ e).1 rfl)).cell 0 rfl, ((HX.out _ gW0).keep hg1 (fun e => (HNE.out _ e).2 rfl)).cell 0 rfl, ((HX.out _ gW0).keep hg1 (fun e => (HNE.out _ e).2 rfl)).cell 1 rfl⟩
        have cS := HCS.out W0 gW0 W1 hg1
        clear hrun hown hgr hnew oA hg1 c1 hHeld hH2
        refine wpAnyH_ready (rs := [10]) (by kernel_rfl) (by simp) (AllReadyH.cons rfl (fun K hK => ?_) AllReadyH.nil)
        refine step_append_runR rfl _ _ _ _ rfl _ _ (by rfl) (by rfl) _ W1 Hrun.out ?_
        refine hK.out _ _ hS1 (fun hHeld => ?_)
        clear hK K
        try simp only [Act.put, List.getElem_toArray, List.getElem_cons_zero, List.getElem_cons_succ, List.setIfInBounds_toArray, List.set_cons_zero, List.set_cons_succ]
        refine wpAnyH_take (i := 11) (v := ?_) rfl (by kernel_rfl) (by kernel_rfl) (by kernel_rfl) (fun _ _ _ h => h) (Or.inl ⟨by rfl, ?z11⟩) (by assumption) ?_
        case z11 =>
          intro w hSw
          (try dsimp only at hSw)
          go_simp
          try (with_reducible rfl)
        try simp only [Act.put, List.getElem_toArray, List.getElem_cons_zero, List.getElem_cons_succ, List.setIfInBounds_toArray, List.set_cons_zero, List.set_cons_succ]
        refine wpAnyH_take (i := 12) (v := ?_) rfl (by kernel_rfl) (by kernel_rfl) (by kernel_rfl) (fun _ _ _ h => h) (Or.inl ⟨by rfl, ?z12⟩) (by assumption) ?_
        case z12 =>
          intro w hSw
          (try dsimp only at hSw)
          go_simp
          try (with_reducible rfl)
        try simp only [Act.put, List.getElem_toArray, List.getElem_cons_zero, List.getElem_cons_succ, List.setIfInBounds_toArray, List.set_cons_zero, List.set_cons_succ]
        refine wpAnyH_ready (rs := [13]) (by kernel_rfl) (by simp) (AllReadyH.cons rfl (fun K hK => ?_) AllReadyH.nil)
        go_simp
        refine hK.out _ _ ?_ (fun hHeld2 => ?_)
        · refine ⟨?_, ?_, ?_⟩
          · rw [World.cell?_setCell_other _ _ _ _ (fun h => HNG.out.1 (Addr.mk.inj h).1)]; exact hS1.1
          · rw [World.cell?_setCell_other _ _ _ _ (fun h => HNG.out.2 (Addr.mk.inj h).1)]; exact hS1.2.1
          · rw [World.cell?_setCell_other _ _ _ _ (fun h => HNG.out.2 (Addr.mk.inj h).1)]; exact hS1.2.2
        clear hK K
        refine wpAnyH_done (by kernel_rfl) ?_ _
        exact HP9.out
      · go_simp
        refine hK.out _ _ ⟨Frm.cellA hHeld.1, Frm.cellA hHeld.2.1, Frm.cellA hHeld.2.2⟩ (fun _ => ?_)
        clear hK K
        try simp only [Act.put, List.getElem_toArray, List.getElem_cons_zero, List.getElem_cons_succ, List.setIfInBounds_toArray, List.set_cons_zero, List.set_cons_succ]
        refine wpAnyH_ready (rs := [6]) (by kernel_rfl) (by simp) (AllReadyH.cons rfl (fun K hK => ?_) AllReadyH.nil)
        have c2 := Frm.cellA (o := .cells #[.int .u8 y.r, .int .u32 y.n] 61) c1
        go_simp
        refine hK.out _ _ ⟨Frm.cellA hHeld.1, Frm.cellA hHeld.2.1, Frm.cellA hHeld.2.2⟩ (fun _ => ?_)
        clear hK K c2
        try simp only [Act.put, List.getElem_toArray, List.getElem_cons_zero, List.getElem_cons_succ, List.setIfInBounds_toArray, List.set_cons_zero, List.set_cons_succ]
        have hH2 := hHeld
        have gA : Frm (fun _ => False) W0 (W0.alloc (.cells #[.int .u8 y.r, .int .u32 y.n] 61)) := (Frm.refl _ _).alloc _
        have oA := (HOE.out _ gW0).keep gA (fun _ _ h => h)
        obtain ⟨v', W1, hrun, hown, hgr, hnew⟩ := append_dotsE (W0.alloc (.cells #[.int .u8 y.r, .int .u32 y.n] 61)) vd (.slice (some ⟨W0.heap.size, 0, none⟩) 1 1) d [y.d] oA (Sl.built dotc dotc_len W0 61 y.d #[.int .u8 y.r, .int .u32 y.n] rfl) (by have := HD.out; simp; omega)
        obtain ⟨a9, c9, rfl, _, _⟩ := Row.slice hown
        have el : (d ++ [y.d]).length = d.length + 1 := by simp
        rw [el] at hrun hown hnew
        clear el
        have Hrun := Lib.hid hrun
        have HP9 := Lib.hid (HPOST.out W0 gW0 _ W1 hown hgr hnew)
        have hg1 : Frm (fun q => vd.ownBlock = some q) W0 W1 := (gA.mono fun _ _ h => h.elim).grown hgr (fun _ _ e => e)
        have hS1 : W1.cell? ⟨Bg, 0, none⟩ = some (.slice (some ⟨g, 0, none⟩) n cap2) ∧ W1.cell? ⟨Bx, 0, none⟩ = some (.int .u8 y.r) ∧ W1.cell? ⟨Bx, 1, none⟩ = some (.int .u32 y.n) := ⟨((HG.out _ gW0).keep hg1 (fun e => (HNE.out _ e).1 rfl)).cell 0 rfl, ((HX.out _ gW0).keep hg1 (fun e => (HNE.out _ e).2 rfl)).cell 0 rfl, ((HX.out _ gW0).keep hg1 (fun e => (HNE.out _ e).2 rfl)).cell 1 rfl⟩
        have cS := HCS.out W0 gW0 W1 hg1
        clear hrun hown hgr hnew oA hg1 c1 hHeld hH2
        refine wpAnyH_ready (rs := [10]) (by kernel_rfl) (by simp) (AllReadyH.cons rfl (fun K hK => ?_) AllReadyH.nil)
        refine step_append_runR rfl _ _ _ _ rfl _ _ (by rfl) (by rfl) _ W1 Hrun.out ?_
        refine hK.out _ _ hS1 (fun hHeld => ?_)
        clear hK K
        try simp only [Act.put, List.getElem_toArray, List.getElem_cons_zero, List.getElem_cons_succ, List.setIfInBounds_toArray, List.set_cons_zero, List.set_cons_succ]
        refine wpAnyH_take (i := 11) (v := ?_) rfl (by kernel_rfl) (by kernel_rfl) (by kernel_rfl) (fun _ _ _ h => h) (Or.inl ⟨by rfl, ?z11⟩) (by assumption) ?_
        case z11 =>
          intro w hSw
          (try dsimp only at hSw)
          go_simp
          try (with_reducible rfl)
        try simp only [Act.put, List.getElem_toArray, List.getElem_cons_zero, List.getElem_cons_succ, List.setIfInBounds_toArray, List.set_cons_zero, List.set_cons_succ]
        refine wpAnyH_take (i := 12) (v := ?_) rfl (by kernel_rfl) (by kernel_rfl) (by kernel_rfl) (fun _ _ _ h => h) (Or.inl ⟨by rfl, ?z12⟩) (by assumption) ?_
        case z12 =>
          intro w hSw
          (try dsimp only at hSw)
          go_simp
          try (with_reducible rfl)
        try simp only [Act.put, List.getElem_toArray, List.getElem_cons_zero, List.getElem_cons_succ, List.setIfInBounds_toArray, List.set_cons_zero, List.set_cons_succ]
        refine wpAnyH_ready (rs := [13]) (by kernel_rfl) (by simp) (AllReadyH.cons rfl (fun K hK => ?_) AllReadyH.nil)
        go_simp
        refine hK.out _ _ ?_ (fun hHeld2 => ?_)
        · refine ⟨?_, ?_, ?_⟩
          · rw [World.cell?_setCell_other _ _ _ _ (fun h => HNG.out.1 (Addr.mk.inj h).1)]; exact hS1.1
          · rw [World.cell?_setCell_other _ _ _ _ (fun h => HNG.out.2 (Addr.mk.inj h).1)]; exact hS1.2.1
          · rw [World.cell?_setCell_other _ _ _ _ (fun h => HNG.out.2 (Addr.mk.inj h).1)]; exact hS1.2.2
        clear hK K
        refine wpAnyH_done (by kernel_rfl) ?_ _
        exact HP9.out
  case done =>
    rintro D xs W hD rfl hi hK
    obtain ⟨u', P, hb', ho, hP⟩ := hi.res
    obtain ⟨a, cap, rfl, hc1, hc2⟩ := Row.slice ho.row
    have c5 := hb'.cell 0 rfl
    have a3 := Tryd.isAgg30
    have z3 := Tryd.sizeOf30
    have hDlt := (Array.getElem?_eq_some_iff.1 hK).1
    have hgp := grownBy_putObj' W D (.deferred none)
    have hrow : ∀ q, some D = some q → ∃ o : Obj, W.heap[q]? = some o ∧ o.isCells = false := fun q e => by cases e; exact ⟨_, hK, rfl⟩
    have ho2 := ho.turned hgp hrow
    have hf2 := hi.frm.grown hgp (fun k hk e => by cases e; omega)
    rw [bkS_fst] at hP
    have hG : P.map Prod.fst = grps p l := hP
    clear ho hP
    go_wp2_with fail
    refine calmR_ret ?_
    refine ⟨by simp, .inl ⟨_, _, rfl, run_takeDeferred hK, ?_⟩⟩
    refine ⟨_, results_tmp rfl _ _ _, ?_⟩
    exact ⟨_, P, rfl, ⟨ho2.row, ho2.dots, ho2.apart, ho2.apu, fun g e => by have := ho2.lo g e; omega, fun i hi g e => by have := ho2.lod i hi g e; omega⟩, hG, hf2⟩
  case stop =>
    rintro D c pre W _ _ h _
    exact h.elim
end Go.Proofs.YtiokabhidjafeaaDoor

