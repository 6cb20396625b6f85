/- What Append of a region answers and leaves. No condition. -/
import Derived.Test.YtdhnidmeeocajaaGreatInR
import Derived.RangeFuncWrites
namespace Go.Proofs.YtdhnidmeeocajaaGreat
open Go.RowKit Go.Shelf
attribute [local go_sem] Oper.semAt_some

def apR (R : RV) (L : LV) (s : List UInt8) : RV × LV × Nat := if R.bad then (R, L, 17) else if R.left < needs s.length then (R, L, 7) else
  if (L.seq (wrs (R.at_ + 1 + R.used) (blks (R.used + 1) s))).2 = 0 then (⟨R.at_, R.n, R.used + needs s.length, false⟩, (L.seq (wrs (R.at_ + 1 + R.used) (blks (R.used + 1) s))).1, 0)
  else (⟨R.at_, R.n, R.used, true⟩, (L.seq (wrs (R.at_ + 1 + R.used) (blks (R.used + 1) s))).1, (L.seq (wrs (R.at_ + 1 + R.used) (blks (R.used + 1) s))).2)
/-- The acts for what was yielded. -/
def preA (A : Nat) {B : Nat} (pre : List (BX B)) : List (DV → DV) := pre.map fun x => wrD (A + x.1.1) x.1.2
theorem preA_snoc (A : Nat) {B : Nat} (pre : List (BX B)) (x : BX B) : preA A (pre ++ [x]) = preA A pre ++ [wrD (A + x.1.1) x.1.2] := by unfold preA; rw [List.map_append]; rfl
theorem preA_n (A : Nat) {B : Nat} (pre : List (BX B)) : ∀ F ∈ preA A pre, ∀ D : DV, (F D).n = D.n := by
  intro F hF D
  obtain ⟨x, _, rfl⟩ := List.mem_map.1 hF
  exact writeTo_n _ _ _
theorem preA_val (A : Nat) {B : Nat} (pre : List (BX B)) : preA A pre = (pre.map Subtype.val).map fun x => wrD (A + x.1) x.2 := by unfold preA; rw [List.map_map]; rfl
theorem blkL_acts (A i : Nat) (s : List UInt8) : ((blkL i s).map fun x => wrD (A + x.1) x.2) = wrs (A + i) (blks i s) := by
  apply List.ext_getElem
  · rw [List.length_map, blkL_len, wrs_len, blks_len]
  · intro k h1 h2
    rw [wrs_at, List.getElem_map]
    have e1 : (blkL i s)[k]'(by rw [List.length_map] at h1; exact h1) = (i + k, blk i s k) := by simp [blkL]
    have e2 : (blks i s)[k]'(by rw [wrs_len] at h2; exact h2) = blk i s k := by simp [blks]
    rw [e1, e2, Nat.add_assoc]
theorem RgM.keep {X : Nat → Prop} {w w' : World} {g l b f x : Nat} {R : RV} {L : LV} (h : RgM w g l b f x R L) (hf : Frm X w w') (h0 : ¬ X g) (h1 : ¬ X l) (h2 : ¬ X b) (h3 : ¬ X f) (h4 : ¬ X x) (h5 : L.cs.length = 0 ∨ ∀ k, L.P k → ¬ X k) : RgM w' g l b f x R L :=
  ⟨h.blk.keep hf h0, h.ln.keep hf h1 h2 h3 h4 h5, h.ne, h.np, h.rok⟩
/-- What lies between two rounds of Append (c: the code so far). -/
structure ApI (w : World) (B0 g l b f x bx ex : Nat) (R : RV) (L : LV) (c : Nat) (bad : Bool) {B : Nat} (pre : List (BX B)) (W : World) : Prop where
  code : (L.seq (preA R.at_ pre)).2 = c
  rg : RgM W g l b f x ⟨R.at_, R.n, R.used, bad⟩ (L.seq (preA R.at_ pre)).1
  box : Blk W bx 37 #[.pointer (some ⟨g, 0, none⟩)]
  err : Blk W ex 38 #[.int .i64 (c : Nat)]
  frm : Frm (RgX g l f x) w W
  low : B0 ≤ W.heap.size
section
variable {w w' W W' : World} {B0 g l b f x bx ex c : Nat} {bad : Bool} {R : RV} {L : LV} {B : Nat} {pre : List (BX B)}
theorem Blk.turnedR {W W' : World} {b : Nat} {t : TypeId} {cs : Array Value} {row : Option Nat} (h : Blk W b t cs) (hg : W.grownBy W' row) (hr : ∀ r, row = some r → ∃ o : Obj, W.heap[r]? = some o ∧ o.isCells = false) : Blk W' b t cs := by
  refine (hg.block b h.lt fun e => ?_).trans h
  obtain ⟨o, ho, hc⟩ := hr b e.symm
  rw [h] at ho
  cases ho
  cases hc
theorem ApI.own (hw : w.heap.size ≤ B0) (hlo : g < w.heap.size ∧ l < w.heap.size ∧ b < w.heap.size ∧ f < w.heap.size ∧ x < w.heap.size) (hP : L.cs.length = 0 ∨ ∀ k, L.P k → k < w.heap.size) : OwnFrom B0 (fun (pre : List (BX B)) W => ApI w B0 g l b f x bx ex R L c bad pre W) := fun pre W W' row h hg hr => by
  have hr2 := fun r e => (hr r e).2
  have gF : Frm (fun k => row = some k) W W' := (Frm.refl _ W).grown hg (fun _ _ e => e)
  have hn : ∀ k, k < w.heap.size → ¬ row = some k := fun k hk e => by have := (hr k e).1; omega
  have hs := LV.seq_same (preA R.at_ pre) L (preA_n _ _)
  refine ⟨h.code, h.rg.keep gF (hn g hlo.1) (hn l hlo.2.1) (hn b hlo.2.2.1) (hn f hlo.2.2.2.1) (hn x hlo.2.2.2.2) ?_, h.box.turnedR hg hr2, h.err.turnedR hg hr2, h.frm.grown hg (fun k hk e => (hn k hk e).elim), Nat.le_trans h.low hg.size⟩
  rw [hs.2.2.2.1, hs.1]
  exact hP.imp id fun q k hk => hn k (q k hk)
/-- What a round changes is nothing that must lie as it lay. -/
theorem DevM.maps {D : DV} (h : DevM w b f x D) : (∃ o, w.heap[f]? = some o ∧ keepR o = false) ∧ ∃ o, w.heap[x]? = some o ∧ keepR o = false := by
  obtain ⟨m1, D1, ⟨es1, c1, h1, _⟩, _⟩ := h.firm
  obtain ⟨m2, D2, ⟨es2, c2, h2, _⟩, _⟩ := h.fresh
  exact ⟨⟨_, h1, rfl⟩, _, h2, rfl⟩
theorem RgM.keptX (h : RgM W g l b f x R L) (hf : Frm (RgX g l f x) W W') : keptR W W' := keptR.ofFrm hf fun k o hk ho => by
  obtain ⟨cv, hl⟩ := h.ln
  obtain ⟨⟨o1, m1, e1⟩, o2, m2, e2⟩ := hl.dev.maps
  rcases hk with rfl | rfl | rfl | rfl
  · rw [show W.heap[k]? = some _ from h.blk] at ho
    cases ho; simp [keepR]
  · rw [show W.heap[k]? = some _ from hl.blk] at ho
    cases ho; simp [keepR]
  · rw [m1] at ho; cases ho; exact e1
  · rw [m2] at ho; cases ho; exact e2
theorem Frm.keepsFrom {X : Nat → Prop} {B1 : Nat} (h : Frm X W W') (hX : ∀ k o, X k → B1 ≤ k → W.heap[k]? = some o → o.isCells = true) : KeepsFrom B1 W W' :=
  ⟨h.size, fun k o hB hk ho => by
    rw [h.block k (Array.getElem?_eq_some_iff.1 hk).1 (fun hx => by rw [hX k o hx hB hk] at ho; cases ho)]
    exact hk⟩
end
set_option maxRecDepth 100000 in
set_option maxHeartbeats 8000000 in
theorem rappend_any (g l b f x : Nat) (R : RV) (L : LV) (s : List UInt8) (w : World) (h : RgM w g l b f x R L) (ha : L.acts ≤ 900000) (hs : s.length ≤ 1000000) (hP : L.cs.length = 0 ∨ ∀ k, L.P k → k < w.heap.size) :
    Calls Tryz.prog 27 #[.pointer (some ⟨g, 0, none⟩), .string (bs s)] w (RgTo g l b f x (apR R L s) w) := by
  have hbd := h.bound
  have hrk := h.rok
  have hlt := h.lt
  obtain ⟨w1, hw1⟩ : ∃ w1, (w.alloc (.cells #[.pointer (some ⟨g, 0, none⟩)] 37)).alloc (.cells #[.int .i64 0] 38) = w1 := ⟨_, rfl⟩
  have b0 : Blk w1 w.heap.size 37 #[.pointer (some ⟨g, 0, none⟩)] := by rw [← hw1]; exact (Blk.alloc w _ _).old _
  have b1 : Blk w1 (w.heap.size + 1) 38 #[.int .i64 0] := by
    have := Blk.alloc (w.alloc (.cells #[.pointer (some ⟨g, 0, none⟩)] 37)) 38 #[.int .i64 0]
    rw [World.size_alloc, hw1] at this
    exact this
  have g1 : Frm (fun _ => False) w w1 := by rw [← hw1]; exact ((Frm.refl _ w).alloc _).alloc _
  have h1 := h.keepF g1
  have HU := rusable_any g l b f x R L w1 h1
  have c0 := b0.cell 0 rfl
  have ce := b1.cell 0 rfl
  have fe := b1.free 0
  have hsz : (bs s).size = s.length := rfl
  obtain ⟨ans, hans⟩ : ∃ ans, apR R L s = ans := ⟨_, rfl⟩
  rw [hans]
  have HANS := Lib.hid hans
  clear hans
  refine (callsIn_wide (n := 9)).1 ?_
  refine callsIn_of_wp_marks Tryz.func27 rfl trivial ?_ rfl
  simp only [Tryz.ntmps27, List.size_toArray, List.length_cons, List.length_nil, Nat.reduceAdd, Nat.reduceSub, Array.replicate_succ, Array.replicate_zero, List.push_toArray, List.append_toArray, List.nil_append, List.cons_append]
  refine wpIn_wide.2 ?_
  refine Code.wp_mono calmR_le ?_
  cases hb : R.bad with
  | true =>
    rw [hb] at HU
    have HU := Lib.hid HU
    have hf : Frm (fun _ => False) w (w1.setCell ⟨w.heap.size + 1, 0, none⟩ (.int .i64 17)) := g1.setCell (p := ⟨w.heap.size + 1, 0, none⟩) (fun h => absurd h (by simp)) _
    have HR := Lib.hid (And.intro (h.keepF hf) hf)
    have HBD := Lib.hid hb
    have c9 := (b1.set 0 (.int .i64 17)).cell 0 rfl
    clear h h1 hb hf hbd hrk
    go_wp2_with fail
    refine HU.out.mono ?_
    rintro e w2 ⟨rfl, rfl⟩
    go_wp2_with fail
    refine calmR_ret ?_
    exact ⟨.int .i64 17, by simp [results, Tryz.results27, go_sem, c9], by rw [← HANS.out]; unfold apR; rw [if_pos HBD.out]; exact ⟨rfl, HR.out.1, HR.out.2.rgF⟩⟩
  | false =>
    rw [hb] at HU
    have HU := Lib.hid HU
    have HNE := Lib.hid (fun W' => needs_any (s.length : Int) W' (by unfold Z64; omega))
    have HLF : Hid (∀ W, (W.cell? ⟨w.heap.size, 0, none⟩ = some (.pointer (some ⟨g, 0, none⟩)) ∧ Frm (fun _ => False) w1 W) → Calls Tryz.prog 19 #[.pointer (some ⟨g, 0, none⟩)] W fun e w' => e = .returned (.int .i64 (R.left : Nat)) ∧ Frm (fun _ => False) W w') := Lib.hid fun W hW => rleft_any g l b f x R L W (h1.keepF hW.2)
    rw [Int.toNat_natCast] at HNE
    obtain ⟨n, hn⟩ : ∃ n, needs s.length = n := ⟨_, rfl⟩
    have HNN := Lib.hid (And.intro hn hb)
    rw [hn] at HNE
    have HNE' : Hid (∀ W, Calls Tryz.prog 21 #[.int .i64 (s.length : Nat)] W fun e w' => e = .returned (.int .i64 (n : Nat)) ∧ Frm (fun _ => False) W w') := Lib.hid fun W => (HNE.out W).mono fun e w' ⟨a, b⟩ => ⟨a, by rw [← b]; exact Frm.refl _ _⟩
    have HLF' := HLF.out
    obtain ⟨lf, hlf⟩ : ∃ lf, R.left = lf := ⟨_, rfl⟩
    have HLFN := Lib.hid hlf
    rw [hlf] at HLF'
    by_cases hfull : lf < n
    · have d1 : decide ((lf : Int) < (n : Int)) = true := decide_eq_true (by omega)
      have hf : Frm (fun _ => False) w1 w1 := Frm.refl _ _
      have HR := Lib.hid (And.intro h (And.intro g1 b1))
      have HFU := Lib.hid hfull
      clear h h1 hb hf hbd hrk b0 b1 hlf hn HLF HNE hfull
      go_wp2_with fail
      refine HU.out.mono ?_
      rintro e w2 ⟨rfl, rfl⟩
      go_upto_region 4 with fail
      refine wp_region_canon (fun W => W.cell? ⟨w.heap.size, 0, none⟩ = some (.pointer (some ⟨g, 0, none⟩)) ∧ Frm (fun _ => False) w1 W) (by kernel_rfl) rfl (by kernel_rfl) (by kernel_rfl) (⟨c0, (Frm.refl _ w1).drew⟩) ?_
      repeat' first
        | (refine CanonL.skip (by rfl) ?_; (try simp only [Act.put, List.setIfInBounds_toArray, List.set_cons_zero, List.set_cons_succ]))
        | (refine CanonL.callQ (by rfl) (by rfl) ?_ HNE' ?_ ?_; (focus (intro w; go_simp; (try (with_reducible rfl)); done)); (focus (rintro w ww hs gg; exact ⟨dFrm_cell gg hs.1, hs.2.trans gg⟩)); (try simp only [Act.put, List.setIfInBounds_toArray, List.set_cons_zero, List.set_cons_succ]))
        | (refine CanonL.callS (by rfl) (by rfl) ?_ HLF' ?_ ?_; (focus (intro w; go_simp; (try (with_reducible rfl)); done)); (focus (rintro w ww hs gg; exact ⟨dFrm_cell gg hs.1, hs.2.trans gg⟩)); (try simp only [Act.put, List.setIfInBounds_toArray, List.set_cons_zero, List.set_cons_succ]))
        | (refine CanonL.val (v := ?_) (by rfl) ?_ ?_; rotate_left 1; (focus (intro w hSw; (try dsimp only at hSw); go_simp; (try (with_reducible rfl)); done)); (try simp only [Act.put, List.setIfInBounds_toArray, List.set_cons_zero, List.set_cons_succ]))
      refine CanonL.done ?_
      intro w9 hS9
      obtain ⟨_, g9⟩ := hS9
      have b9 := HR.out.2.2.keep g9 (fun h => h)
      have d9 := b9.cell 0 rfl
      have f9 := b9.free 0
      have c9 := (b9.set 0 (.int .i64 7)).cell 0 rfl
      have hf : Frm (fun _ => False) w (w9.setCell ⟨w.heap.size + 1, 0, none⟩ (.int .i64 7)) := (HR.out.2.1.trans g9).setCell (p := ⟨w.heap.size + 1, 0, none⟩) (fun h => absurd h (by simp)) _
      have HZ := Lib.hid (And.intro (HR.out.1.keepF hf) hf)
      clear g9 b9 hf HLF' c0 ce fe
      go_wp2_with fail
      refine calmR_ret ?_
      refine ⟨.int .i64 7, by simp [results, Tryz.results27, go_sem, c9], ?_⟩
      rw [← HANS.out]
      unfold apR
      rw [if_neg (by rw [HNN.out.2]; exact Bool.false_ne_true), if_pos (by rw [HNN.out.1, HLFN.out]; exact HFU.out)]
      exact ⟨rfl, HZ.out.1, HZ.out.2.rgF⟩
    · have d1 : decide ((lf : Int) < (n : Int)) = false := decide_eq_false (by omega)
      have d2 : decide (lf < n) = false := decide_eq_false (by omega)
      have hRR : (⟨R.at_, R.n, R.used, false⟩ : RV) = R := by
        cases R
        simp only at hb
        rw [hb]
      have hleft : R.used + 1 + n ≤ R.n := by unfold RV.left at hlf; have := hrk.us; omega
      have hi0 : (R.used : Int) + 1 = ((R.used + 1 : Nat) : Int) := by omega
      obtain ⟨i0, hi0n⟩ : ∃ i0, R.used + 1 = i0 := ⟨_, rfl⟩
      rw [hi0n] at hi0 hleft
      have hw64 : IntKind.i64.wrap (i0 : Int) = (i0 : Int) := IntWalk.i64_in _ (by omega)
      have c4 : w1.cell? ⟨g, 4, none⟩ = some (.int .i64 (R.used : Nat)) := h1.c4
      have hans2 : ans = if (L.seq (wrs (R.at_ + i0) (blks i0 s))).2 = 0 then (⟨R.at_, R.n, R.used + n, false⟩, (L.seq (wrs (R.at_ + i0) (blks i0 s))).1, 0) else (⟨R.at_, R.n, R.used, true⟩, (L.seq (wrs (R.at_ + i0) (blks i0 s))).1, (L.seq (wrs (R.at_ + i0) (blks i0 s))).2) := by
        rw [← HANS.out]
        unfold apR
        rw [if_neg (by rw [hb]; exact Bool.false_ne_true), HNN.out.1, if_neg (by rw [hlf]; exact hfull), show R.at_ + 1 + R.used = R.at_ + i0 by omega, hi0n]
      have HA2 := Lib.hid hans2
      have HR := Lib.hid (And.intro h1 (And.intro g1 (And.intro b0 b1)))
      have HK := Lib.hid (And.intro hRR (And.intro hbd (And.intro hrk (And.intro hlt (And.intro ha hP)))))
      have HI := Lib.hid (And.intro hleft (And.intro hi0n hs))
      have hw1s : w1.heap.size = w.heap.size + 2 := by rw [← hw1]; simp
      have HWS := Lib.hid hw1s
      have cUsed := Lib.hid c4
      clear h h1 hb hbd hrk b0 b1 hlf hn HLF HNE hfull hRR hleft hi0n hans2 hlt ha hP hw1s c4 hs
      go_wp2_with fail
      refine HU.out.mono ?_
      rintro e w2 ⟨rfl, rfl⟩
      go_upto_region 4 with fail
      refine wp_region_canon (fun W => W.cell? ⟨w.heap.size, 0, none⟩ = some (.pointer (some ⟨g, 0, none⟩)) ∧ Frm (fun _ => False) w1 W) (by kernel_rfl) rfl (by kernel_rfl) (by kernel_rfl) (⟨c0, (Frm.refl _ w1).drew⟩) ?_
      repeat' first
        | (refine CanonL.skip (by rfl) ?_; (try simp only [Act.put, List.setIfInBounds_toArray, List.set_cons_zero, List.set_cons_succ]))
        | (refine CanonL.callQ (by rfl) (by rfl) ?_ HNE' ?_ ?_; (focus (intro w; go_simp; (try (with_reducible rfl)); done)); (focus (rintro w ww hs gg; exact ⟨dFrm_cell gg hs.1, hs.2.trans gg⟩)); (try simp only [Act.put, List.setIfInBounds_toArray, List.set_cons_zero, List.set_cons_succ]))
        | (refine CanonL.callS (by rfl) (by rfl) ?_ HLF' ?_ ?_; (focus (intro w; go_simp; (try (with_reducible rfl)); done)); (focus (rintro w ww hs gg; exact ⟨dFrm_cell gg hs.1, hs.2.trans gg⟩)); (try simp only [Act.put, List.setIfInBounds_toArray, List.set_cons_zero, List.set_cons_succ]))
        | (refine CanonL.val (v := ?_) (by rfl) ?_ ?_; rotate_left 1; (focus (intro w hSw; (try dsimp only at hSw); go_simp; (try (with_reducible rfl)); done)); (try simp only [Act.put, List.setIfInBounds_toArray, List.set_cons_zero, List.set_cons_succ]))
      refine CanonL.done ?_
      intro w9 hS9
      obtain ⟨k0, g9⟩ := hS9
      have d4 := dFrm_cell g9 cUsed.out
      have G9 := Lib.hid g9
      have HBL := rblocks_any s i0 w9
      have HBL := Lib.hid HBL
      clear g9 HLF' c0 ce fe hw1
      go_wp2_with fail
      refine HBL.out.mono ?_
      rintro e wy ⟨rfl, bG, bI, gy⟩
      obtain ⟨Bg, hBg⟩ : ∃ Bg, w9.heap.size = Bg := ⟨_, rfl⟩
      rw [hBg] at bG bI ⊢
      have gWy : Frm (fun _ => False) w wy := (HR.out.2.1.trans G9.out).trans gy
      have hRy : RgM wy g l b f x R L := (HR.out.1.keepF G9.out).keepF gy
      have bx : Blk wy w.heap.size 37 #[.pointer (some ⟨g, 0, none⟩)] := (HR.out.2.2.1.keep G9.out (fun h => h)).keep gy (fun h => h)
      have be : Blk wy (w.heap.size + 1) 38 #[.int .i64 0] := (HR.out.2.2.2.keep G9.out (fun h => h)).keep gy (fun h => h)
      have hlt := HK.out.2.2.2.1
      have hszy : w.heap.size + 2 ≤ wy.heap.size := by have := G9.out.size; have := gy.size; have := HWS.out; omega
      have HY := Lib.hid (And.intro gWy hszy)
      have hI0 : ApI w wy.heap.size g l b f x w.heap.size (w.heap.size + 1) R L 0 false ([] : List (BX R.n)) wy :=
        ⟨rfl, by rw [HK.out.1]; exact hRy, bx, be, gWy.rgF, Nat.le_refl _⟩
      have hstops := blocks1_stops Bg (Bg + 1) R.n s i0 wy bG bI (by rw [HNN.out.1]; exact HI.out.1) (by have := HK.out.2.1; omega)
      clear gWy hRy bx be gy bG bI HBL k0 d4
      go_wp2_with fail
      refine (wpIn_wide (n := 9)).1 ?_
      refine wpIn_rangeFunc_ownG rfl (by omega) (gf := 92) (lb := #[.pointer (some ⟨Bg, 0, none⟩), .pointer (some ⟨Bg + 1, 0, none⟩)]) rfl trivial (enters_of Tryz.func92 (by kernel_rfl) rfl)
        hstops keptR.trans keptR.put (Below.refl _ _) (fun _ => rfl)
        (fun pre W => ApI w wy.heap.size g l b f x w.heap.size (w.heap.size + 1) R L 0 false pre W) (fun c pre W => c = .ret ∧ ApI w wy.heap.size g l b f x w.heap.size (w.heap.size + 1) R L 8 true pre W)
        (ApI.own (by omega) hlt HK.out.2.2.2.2.2) (fun c => OwnFrom.and (fun _ _ _ _ e _ _ => e) (ApI.own (by omega) hlt HK.out.2.2.2.2.2)) hI0 ?a1 ?assign ?body ?done ?stop
      case assign =>
        intro l0 x W K hK
        gi_wp2
        exact hK
      case body =>
        rintro l0 pre ⟨⟨xi, xb⟩, hx1, hx2⟩ W hv hln
        have hx1 : xi < R.n := hx1
        have hx2 : xb.length = 64 := hx2
        obtain ⟨hcode, hrg, hbox, herr, hfrm, hlow⟩ := hv
        have hss := LV.seq_same (preA R.at_ pre) L (preA_n _ _)
        have hpl : (preA R.at_ pre).length = pre.length := by unfold preA; rw [List.length_map]
        have hseq : L.seq (preA R.at_ (pre ++ [⟨(xi, xb), hx1, hx2⟩])) = ((L.seq (preA R.at_ pre)).1.act (wrD (R.at_ + xi) xb (L.seq (preA R.at_ pre)).1.D), (L.seq (preA R.at_ pre)).1.code 0) := by
          rw [preA_snoc, LV.seq_append, if_pos hcode, seq_one]
        obtain ⟨p, hp⟩ : ∃ p, (L.seq (preA R.at_ pre)).1 = p := ⟨_, rfl⟩
        have HPP := Lib.hid hp
        rw [hp] at hrg hss hseq
        rw [blkL_len, HNN.out.1] at hln
        have hE : p.D.writeE ((R.at_ : Int) + (xi : Int)) xb = 0 := writeE_ok (by omega) (by rw [hss.2.2.2.2]; have := HK.out.2.2.1.hi; omega) (by omega)
        have hwd : p.D.writeTo ((R.at_ : Int) + (xi : Int)) xb = wrD (R.at_ + xi) xb p.D := by unfold wrD; rw [Int.natCast_add]
        have HW : Hid (∀ W', Frm (fun _ => False) W W' → Calls Tryz.prog 16 #[.pointer (some ⟨l, 0, none⟩), .int .i64 ((R.at_ : Int) + (xi : Int)), .string (bs xb)] W' fun e w' => e = .returned (.int .i64 (p.code 0 : Nat)) ∧ LnM w' l b f x (p.act (wrD (R.at_ + xi) xb p.D)) ∧ Frm (LnX l f x) W' w') := Lib.hid fun W' gW => by
          have := lwrite_any l b f x p ((R.at_ : Int) + (xi : Int)) xb W' (hrg.ln.keepF gW) (by have := hss.2.1; have := HK.out.2.2.2.2.1; have := HK.out.2.1; have := HI.out.1; omega) (by have := HK.out.2.1; unfold Z64; omega) (by omega)
          rw [hE, hwd] at this
          exact this
        have hbd2 := HK.out.2.1
        have hw64b : IntKind.i64.wrap ((R.at_ : Int) + (xi : Int)) = (R.at_ : Int) + (xi : Int) := IntWalk.i64_in _ (by omega)
        have c0 := hbox.cell 0 rfl
        have c1 := hrg.c1
        have c2 : W.cell? ⟨g, 2, none⟩ = some (.int .i64 (R.at_ : Nat)) := hrg.c2
        have hc8 := p.code_or
        obtain ⟨c, hcc⟩ : ∃ c, p.code 0 = c := ⟨_, rfl⟩
        rw [hcc] at HW hseq hc8
        have HV := Lib.hid (And.intro hrg (And.intro hbox (And.intro herr (And.intro hfrm hlow))))
        have HQ := Lib.hid hseq
        clear hcode hrg hbox herr hfrm hlow hss hpl hseq hp hE hwd hcc hbd2
        gi_wp2_with fail
        refine wpIn_region_plain (by kernel_rfl) (by kernel_rfl) (by rintro ⟨_, _, h⟩; exact h) ?_
        refine any_pend 11 2 (fun w' => w'.cell? ⟨w.heap.size, 0, none⟩ = some (.pointer (some ⟨g, 0, none⟩)) ∧ w'.cell? ⟨g, 1, none⟩ = some (.pointer (some ⟨l, 0, none⟩)) ∧ w'.cell? ⟨g, 2, none⟩ = some (.int .i64 (R.at_ : Nat)) ∧ Frm (fun _ => False) W w') (fun w' => w'.cell? ⟨w.heap.size, 0, none⟩ = some (.pointer (some ⟨g, 0, none⟩))) (.pointer (some ⟨g, 0, none⟩)) rfl rfl (by kernel_rfl) rfl (by kernel_rfl) (by kernel_rfl) (by kernel_rfl) (fun _ h => h.1) ⟨c0, c1, c2, (Frm.refl _ W).drew⟩ ⟨by rfl, fun w h => by go_simp⟩ ?_
        try simp only [Act.put, List.setIfInBounds_toArray, List.set_cons_zero, List.set_cons_succ]
        repeat' first
          | (refine CanonL.skip (by rfl) ?_; (try simp only [Act.put, List.setIfInBounds_toArray, List.set_cons_zero, List.set_cons_succ]))
          | (refine CanonL.val (v := ?_) (by rfl) ?_ ?_; rotate_left 1; (focus (intro w hSw; (try dsimp only at hSw); go_simp; (try (with_reducible rfl)); done)); (try simp only [Act.put, List.setIfInBounds_toArray, List.set_cons_zero, List.set_cons_succ]))
        refine CanonL.done ?_
        intro w9 hS9
        obtain ⟨k0, _, _, g9⟩ := hS9
        have HW9 := Lib.hid (HW.out w9 g9)
        have G9 := Lib.hid g9
        clear g9 HW c1 c2 k0
        refine ⟨_, rfl, ?_⟩
        refine OpOK.callK (by rfl) (by go_simp) (HW9.out.mono ?_)
        rintro e w10 ⟨rfl, h10, g10⟩
        have hR10 := (HV.out.1.keepF G9.out).acted (wrD (R.at_ + xi) xb) (writeTo_n _ _ _) h10 g10
        have hnb : ∀ k, w.heap.size ≤ k → ¬ LnX l f x k := fun k hk => notX (by omega) (by omega) (by omega)
        have bx10 := (HV.out.2.1.keep G9.out (fun h => h)).keep g10 (hnb _ (Nat.le_refl _))
        have be10 := (HV.out.2.2.1.keep G9.out (fun h => h)).keep g10 (hnb _ (by omega))
        have G10 := Lib.hid ((G9.out.mono (fun _ _ h => h.elim : ∀ k, k < W.heap.size → False → LnX l f x k)).trans g10)
        have HB10 := Lib.hid (And.intro bx10 be10)
        have HD := Lib.hid (rdone_any g l b f x _ _ c w10 hR10)
        refine ⟨_, rfl, bx10.cell 0 rfl, ?_⟩
        clear h10 g10 hR10 hnb bx10 be10 HW9 G9 c0
        refine wpTail.cons rfl rfl (fun K hK => ?_)
        unfold Oper.wp execOp
        go_simp
        with_reducible refine HD.out.mono ?_
        rintro e w11 ⟨rfl, h11, g11⟩
        have hnb : ∀ k, w.heap.size ≤ k → ¬ k = g := fun k hk => by omega
        have bx11 := HB10.out.1.keep g11 (hnb _ (Nat.le_refl _))
        have be11 := HB10.out.2.keep g11 (hnb _ (by omega))
        have H11 := Lib.hid (And.intro h11 (And.intro bx11 (And.intro be11 (G10.out.rgL.trans (g11.rgG (g := g) (l := l) (f := f) (x := x))))))
        clear h11 g11 hnb bx11 HD HB10 G10
        refine hK _ _ ?_
        clear hK K
        try simp only [Act.put, List.setIfInBounds_toArray, List.set_cons_zero, List.set_cons_succ]
        refine wpTail.cons rfl rfl (fun K hK => ?_)
        unfold Oper.wp execOp
        go_simp
        refine hK _ _ ?_
        clear hK K
        try simp only [Act.put, List.setIfInBounds_toArray, List.set_cons_zero, List.set_cons_succ]
        refine wpTail.done ?_
        have ce := be11.cell 0 rfl
        have fe := be11.free 0
        rcases hc8 with rfl | rfl
        · gi_wp2_with fail
          obtain ⟨h11, bx11, be11, gx⟩ := H11.out
          obtain ⟨hrg, _, _, hfrm, hlow⟩ := HV.out
          exact ⟨gx.keepsFrom (fun k o hk hB _ => by unfold RgX LnX at hk; omega), hrg.keptX gx, by rw [HQ.out], by rw [HQ.out]; exact h11, bx11, be11, hfrm.trans gx, Nat.le_trans hlow gx.size⟩
        · gi_wp2_with fail
          obtain ⟨h11, bx11, be11, gx⟩ := H11.out
          obtain ⟨hrg, _, herr, hfrm, hlow⟩ := HV.out
          have ge : Frm (· = w.heap.size + 1) w11 (w11.setCell ⟨w.heap.size + 1, 0, none⟩ (.int .i64 8)) := (Frm.refl (· = w.heap.size + 1) w11).setCell (fun _ => rfl) _
          have hlt11 := h11.lt
          have gk : Frm (fun k => RgX g l f x k ∨ k = w.heap.size + 1) W (w11.setCell ⟨w.heap.size + 1, 0, none⟩ (.int .i64 8)) := (gx.mono (fun _ _ h => .inl h)).trans (ge.mono (fun _ _ h => .inr h))
          have hPn : (p.act (wrD (R.at_ + xi) xb p.D)).cs.length = 0 ∨ ∀ k, (p.act (wrD (R.at_ + xi) xb p.D)).P k → k ≠ w.heap.size + 1 := by
            have h1 := LV.act_same p (wrD (R.at_ + xi) xb p.D)
            have h2 := LV.seq_same (preA R.at_ pre) L (preA_n _ _)
            have e1 : (p.act (wrD (R.at_ + xi) xb p.D)).cs = L.cs := h1.2.2.2.trans (by rw [← HPP.out]; exact h2.2.2.2.1)
            have e2 : (p.act (wrD (R.at_ + xi) xb p.D)).P = L.P := h1.1.trans (by rw [← HPP.out]; exact h2.1)
            rw [e1, e2]
            exact HK.out.2.2.2.2.2.imp id fun q k hk => by have := q k hk; omega
          refine ⟨gk.keepsFrom (fun k o hk hB _ => by unfold RgX LnX at hk; omega), rfl, by rw [HQ.out], ?_, bx11.keep ge (by omega), be11.set 0 _, hfrm.trans gx |>.setCell (p := ⟨w.heap.size + 1, 0, none⟩) (fun h => absurd h (by simp)) _, Nat.le_trans hlow gk.size⟩
          rw [HQ.out]
          exact RgM.keep h11 ge (by omega) (by omega) (by omega) (by omega) (by omega) hPn
      case done =>
        rintro D xs W hD hS hv hK2
        have hac : preA R.at_ xs = wrs (R.at_ + i0) (blks i0 s) := by rw [preA_val, hS, blkL_acts]
        obtain ⟨hcode, hrg, hbox, herr, hfrm, hlow⟩ := hv
        have hss := LV.seq_same (preA R.at_ xs) L (preA_n _ _)
        rw [hac] at hcode hrg hss
        have hans3 := HA2.out
        rw [if_pos hcode] at hans3
        obtain ⟨L1, hL1⟩ : ∃ L1, (L.seq (wrs (R.at_ + i0) (blks i0 s))).1 = L1 := ⟨_, rfl⟩
        rw [hL1] at hrg hss hans3
        have hu2i : (R.used : Int) + (n : Int) = ((R.used + n : Nat) : Int) := by omega
        obtain ⟨u2, hu2⟩ : ∃ u2, R.used + n = u2 := ⟨_, rfl⟩
        have hbd2 := HK.out.2.1
        have hin := HI.out.1
        have hi0' := HI.out.2.1
        rw [hu2] at hu2i hans3
        have hw64c : IntKind.i64.wrap (u2 : Int) = (u2 : Int) := IntWalk.i64_in _ (by omega)
        have hPn : L1.cs.length = 0 ∨ ∀ k, L1.P k → k < w.heap.size := by rw [hss.2.2.2.1, hss.1]; exact HK.out.2.2.2.2.2
        have c0 := hbox.cell 0 rfl
        have c4 : W.cell? ⟨g, 4, none⟩ = some (.int .i64 (R.used : Nat)) := hrg.c4
        have HV := Lib.hid (And.intro hrg (And.intro herr (And.intro hfrm (And.intro hlow (And.intro hPn (And.intro hK2 (And.intro hD (show u2 + 1 ≤ R.n by omega))))))))
        have HA3 := Lib.hid hans3
        have HRR := Lib.hid hu2
        clear hcode hrg hbox herr hfrm hlow hss hac hans3 hL1 hPn hK2 hS hD hu2 hbd2 hin hi0'
        go_upto_region 12 with fail
        refine wp_region_tail 10 0 (fun w' => w'.cell? ⟨w.heap.size, 0, none⟩ = some (.pointer (some ⟨g, 0, none⟩)) ∧ w'.cell? ⟨g, 4, none⟩ = some (.int .i64 (R.used : Nat)) ∧ Frm (fun _ => False) W w') (by kernel_rfl) rfl rfl (by kernel_rfl) (by kernel_rfl) (by kernel_rfl) (by kernel_rfl) (⟨c0, c4, (Frm.refl _ W).drew⟩) ?_
        repeat' first
          | (refine CanonL.skip (by rfl) ?_; (try simp only [Act.put, List.setIfInBounds_toArray, List.set_cons_zero, List.set_cons_succ]))
          | (refine CanonL.callQ (by rfl) (by rfl) ?_ HNE' ?_ ?_; (focus (intro w; go_simp; (try (with_reducible rfl)); done)); (focus (rintro w ww hs gg; exact ⟨dFrm_cell gg hs.1, dFrm_cell gg hs.2.1, hs.2.2.trans gg⟩)); (try simp only [Act.put, List.setIfInBounds_toArray, List.set_cons_zero, List.set_cons_succ]))
          | (refine CanonL.val (v := ?_) (by rfl) ?_ ?_; rotate_left 1; (focus (intro w hSw; (try dsimp only at hSw); go_simp; (try (with_reducible rfl)); done)); (try simp only [Act.put, List.setIfInBounds_toArray, List.set_cons_zero, List.set_cons_succ]))
        refine CanonL.done ?_
        intro w9 hS9
        obtain ⟨_, k4, g9⟩ := hS9
        have f4 := (HV.out.1.keepF g9).blk.free 4
        have hb4 := (HV.out.1.keepF g9).blk.set 4 (.int .i64 (u2 : Nat))
        have ga : Frm (· = g) w9 (w9.setCell ⟨g, 4, none⟩ (.int .i64 (u2 : Nat))) := (Frm.refl (· = g) w9).setCell (fun _ => rfl) _
        have hRa := (HV.out.1.keepF g9).noted (used := u2) (bad := false) HV.out.2.2.2.2.2.2.2 hb4 ga
        have hea := (HV.out.2.1.keep g9 (fun h => h)).keep ga (fun e => by omega)
        have ce := hea.cell 0 rfl
        have fe := hea.free 0
        have H9 := Lib.hid (And.intro g9 (And.intro ga (And.intro hRa hea)))
        clear g9 ga hRa hea hb4 c0 c4
        refine wpTail.cons rfl rfl (fun K hK => ?_)
        unfold Oper.wp execOp
        go_simp
        refine hK _ _ ?_
        clear hK K
        try simp only [Act.put, List.setIfInBounds_toArray, List.set_cons_zero, List.set_cons_succ]
        refine wpTail.done ?_
        go_wp2_with fail
        refine calmR_ret ?_
        obtain ⟨g9, ga, hRa, hea⟩ := H9.out
        obtain ⟨hrg, herr, hfrm, hlow, hPn, hK2, hD, _⟩ := HV.out
        have hlt9 := (hrg.keepF g9).lt
        have ge : Frm (· = w.heap.size + 1) (w9.setCell ⟨g, 4, none⟩ (.int .i64 (u2 : Nat))) ((w9.setCell ⟨g, 4, none⟩ (.int .i64 (u2 : Nat))).setCell ⟨w.heap.size + 1, 0, none⟩ (.int .i64 0)) := (Frm.refl (· = w.heap.size + 1) _).setCell (fun _ => rfl) _
        have hRb := hRa.keep ge (by omega) (by omega) (by omega) (by omega) (by omega) (hPn.imp id fun q k hk => by have := q k hk; omega)
        have heb := hea.set 0 (.int .i64 0)
        have hDlt := (Array.getElem?_eq_some_iff.1 hK2).1
        have hK' : ((w9.setCell ⟨g, 4, none⟩ (.int .i64 (u2 : Nat))).setCell ⟨w.heap.size + 1, 0, none⟩ (.int .i64 0)).heap[D]? = some (.deferred (some [])) := by
          rw [Below.heap_setCell _ _ _ _ (show D ≠ w.heap.size + 1 by omega), Below.heap_setCell _ _ _ _ (show D ≠ g by omega), g9.block D hDlt (fun h => h)]
          exact hK2
        have hgp := grownBy_putObj' ((w9.setCell ⟨g, 4, none⟩ (.int .i64 (u2 : Nat))).setCell ⟨w.heap.size + 1, 0, none⟩ (.int .i64 0)) D (.deferred none)
        have gd : Frm (fun k => D = k) ((w9.setCell ⟨g, 4, none⟩ (.int .i64 (u2 : Nat))).setCell ⟨w.heap.size + 1, 0, none⟩ (.int .i64 0)) _ := (Frm.refl (fun k => D = k) _).grown hgp (fun k _ e => Option.some.inj e)
        have hRc := hRb.keep gd (by omega) (by omega) (by omega) (by omega) (by omega) (hPn.imp id fun q k hk => by have := q k hk; omega)
        have cE := (heb.keep gd (by omega)).cell 0 rfl
        refine ⟨by simp, .inl ⟨_, _, rfl, run_takeDeferred hK', ?_⟩⟩
        refine ⟨.int .i64 0, by simp [results, Tryz.results27, go_sem, cE], ?_⟩
        rw [HA3.out]
        have gAll : Frm (RgX g l f x) w _ := (((hfrm.trans g9.rgF).trans ga.rgG).next ge (fun k hk e => by omega)).next gd (fun k hk e => by omega)
        exact ⟨rfl, hRc, gAll⟩
      case stop =>
        rintro D c pre W hD hS ⟨rfl, hv⟩ hK2
        obtain ⟨hcode, hrg, hbox, herr, hfrm, hlow⟩ := hv
        have hss := LV.seq_same (preA R.at_ pre) L (preA_n _ _)
        have hfull : L.seq (wrs (R.at_ + i0) (blks i0 s)) = L.seq (preA R.at_ pre) := by
          obtain ⟨rest, hrest⟩ := hS
          have e1 : wrs (R.at_ + i0) (blks i0 s) = preA R.at_ pre ++ rest.map (fun x => wrD (R.at_ + x.1) x.2) := by rw [← blkL_acts, ← hrest, List.map_append, preA_val]
          rw [e1, LV.seq_append, if_neg (by rw [hcode]; decide)]
        have hans3 := HA2.out
        rw [hfull, hcode, if_neg (by decide)] at hans3
        have hPn : (L.seq (preA R.at_ pre)).1.cs.length = 0 ∨ ∀ k, (L.seq (preA R.at_ pre)).1.P k → k < w.heap.size := by rw [hss.2.2.2.1, hss.1]; exact HK.out.2.2.2.2.2
        have hlt9 := hrg.lt
        have hgp := grownBy_putObj' W D (.deferred none)
        have gd : Frm (fun k => D = k) W _ := (Frm.refl (fun k => D = k) _).grown hgp (fun k _ e => Option.some.inj e)
        have hRc := hrg.keep gd (by omega) (by omega) (by omega) (by omega) (by omega) (hPn.imp id fun q k hk => by have := q k hk; omega)
        have cE := (herr.keep gd (by omega)).cell 0 rfl
        have gAll : Frm (RgX g l f x) w _ := hfrm.next gd (fun k hk e => by omega)
        refine wpIn_wide.2 ?_
        go_wp2_with fail
        refine calmR_ret ?_
        refine ⟨by simp, .inl ⟨_, _, rfl, run_takeDeferred hK2, ?_⟩⟩
        refine ⟨.int .i64 8, by simp [results, Tryz.results27, go_sem, cE], ?_⟩
        rw [hans3]
        exact ⟨rfl, hRc, gAll⟩
end Go.Proofs.YtdhnidmeeocajaaGreat

