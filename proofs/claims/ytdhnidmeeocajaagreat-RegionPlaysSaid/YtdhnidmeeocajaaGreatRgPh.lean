/- LateF, over the operations themselves. Of no program. No condition. -/
import Derived.Test.YtdhnidmeeocajaaGreatLateF
import Derived.Test.YtdhnidmeeocajaaGreatRgPg
section
namespace Go.Proofs.YtdhnidmeeocajaaGreat
open Go.RowKit

def pickN (ops : List Oper) : List Nat → Option (List (Nat × Oper))
  | [] => some []
  | k :: ks => match ops[k]?, pickN ops ks with
    | some o, some l => some ((k, o) :: l)
    | _, _ => none
section
variable {P : Program} {ops : Array Oper} {Q : Exit → Act → World → Prop} {md : Region.Mode} {S : World → Prop}
/-- The operations that read, one behind the other. -/
def SeqO (P : Program) (ops : Array Oper) (S : World → Prop) (val : Nat → Value) : Act → List (Nat × Oper) → Prop
  | _, [] => True
  | a, (k, o) :: ks => Region.wanted o (yielded ops a.tmps) = true ∧ (∀ W, S W → (execOp a.eval o).run P W = .ok (.value (val k)) W) ∧ SeqO P ops S val (a.put o.dst (val k)) ks
def aP (val : Nat → Value) : Act → List (Nat × Oper) → Act
  | a, [] => a
  | a, (k, o) :: ks => aP val (a.put o.dst (val k)) ks
theorem seqO_R {val : Nat → Value} {os' : List Oper} (hos' : ops = os'.toArray) (hsel : ∀ (j : Nat) (o : Oper) cs b, ops[j]? = some o → o.op ≠ .select cs b) : ∀ (L : List Nat) (os : List (Nat × Oper)) (a : Act), pickN os' L = some os → SeqO P ops S val a os → SeqR P ops S val a L ∧ aL ops val a L = aP val a os := by
  intro L
  induction L with
  | nil =>
    intro os a h _
    cases h
    exact ⟨trivial, rfl⟩
  | cons k L ih =>
    intro os a h hs
    unfold pickN at h
    split at h
    · rename_i o l ho hl
      cases h
      obtain ⟨h1, h2, h3⟩ := hs
      have ho' : ops[k]? = some o := by subst hos'; simpa using ho
      have hd : dstOf ops k = o.dst := by simp [dstOf, ho']
      obtain ⟨i1, i2⟩ := ih l (a.put o.dst (val k)) hl h3
      refine ⟨⟨⟨o, ho', h1, fun cs b => hsel k o cs b ho', h2⟩, by rw [hd]; exact i1⟩, ?_⟩
      show aL ops val (a.put (dstOf ops k) (val k)) L = aP val (a.put o.dst (val k)) l
      rw [hd]
      exact i2
    · cases h
theorem wp_region_freeO {id : Nat} {a : Act} {w : World} (L M : List Nat) (S : World → Prop) (val : Nat → Value) {os' : List Oper} {os : List (Nat × Oper)} (hm : P.follows .mixedOrders = true) (hos' : ops = os'.toArray) (hpk : pickN os' L = some os) (hsz : ops.size = M.length + L.length)
    (hn : Region.noSelect ops = true) (hb : canonB .any ops = true) (hd : distB ops = true) (hf : freeL .any ops L M = true) (hLs : (decide (L.Pairwise (· < ·)) && decide M.Nodup) = true) (hS : S w.drew)
    (hr : SeqO P ops S val a os) (ht : wpFree P .any ops (QN Q) S M.length M (aP val a os) w.drew) : (Code.region id ops true).wp P Q a w := by
  simp only [Bool.and_eq_true, decide_eq_true_eq] at hLs
  obtain ⟨h1, h2⟩ := seqO_R (P := P) (S := S) hos' (Region.noSelect_spec hn) L os a hpk hr
  exact wp_region_free L M S val hm hsz hn hb hd hf hLs.1 hLs.2 hS h1 (by rw [h2]; exact ht)
/-- Which of the operations M may come next? -/
def readyM (md : Region.Mode) (ops : Array Oper) (M : List Nat) : List Nat := M.filter fun j => M.all fun k => !waits md ops j k
theorem mem_readyM {M : List Nat} {j : Nat} (hj : j ∈ M) (h : ∀ k ∈ M, waits md ops j k = false) : j ∈ readyM md ops M := List.mem_filter.2 ⟨hj, by simpa using h⟩
theorem wpFree.one {n i : Nat} {M M' : List Nat} {a : Act} {w : World} (hr : readyM md ops M = [i]) (hM : M.erase i = M') (h : wpOp P ops Q i (fun a w => S w ∧ wpFree P md ops Q S n M' a w) a w) : wpFree P md ops Q S (n + 1) M a w := fun j hj hall => by
  have h1 := mem_readyM hj hall
  rw [hr] at h1
  obtain rfl := List.mem_singleton.1 h1
  rw [hM]
  exact h
theorem wpFree.two {n i k : Nat} {M Mi Mk : List Nat} {a : Act} {w : World} (hr : readyM md ops M = [i, k]) (hMi : M.erase i = Mi) (hMk : M.erase k = Mk) (hi : wpOp P ops Q i (fun a w => S w ∧ wpFree P md ops Q S n Mi a w) a w) (hk : wpOp P ops Q k (fun a w => S w ∧ wpFree P md ops Q S n Mk a w) a w) : wpFree P md ops Q S (n + 1) M a w := fun j hj hall => by
  have h1 := mem_readyM hj hall
  rw [hr] at h1
  rcases List.mem_cons.1 h1 with rfl | h1
  · rw [hMi]; exact hi
  · obtain rfl := List.mem_singleton.1 h1
    rw [hMk]; exact hk
theorem wpFree.done {M : List Nat} {a : Act} {w : World} (h : Q .normal a w) : wpFree P md ops (QN Q) S 0 M a w := h
theorem wpOp.val {i : Nat} {a : Act} {w : World} {o : Oper} {K0 : Act → World → Prop} (hi : ops[i]? = some o) (hw : Region.wanted o (yielded ops a.tmps) = true) (h : ∀ K : Act → World → Prop, (∀ a w, K0 a w → K a w) → o.wp P a w K Q) : wpOp P ops Q i K0 a w := by
  unfold wpOp
  simp only [hi]
  rw [if_pos hw]
  exact .inl (h _ fun _ _ h => h)
end
end Go.Proofs.YtdhnidmeeocajaaGreat
end
section
namespace Go.Proofs.YtdhnidmeeocajaaGreat
open Go.RowKit Go.Shelf

set_option maxRecDepth 100000 in
set_option maxHeartbeats 4000000 in
theorem refseal_any (b p r : Nat) (fp : Nat → Prop) (R : RV) (L : LV) (gen : Nat) (w : World) (h : RRM w b p r fp R L) (ha : L.acts ≤ 900000) (hgen : gen < 4294967296) (hN : R.at_ + R.n ≤ L.D.n) :
    Calls Tryz.prog 51 #[.pointer (some ⟨b, 0, none⟩), .int .u32 (gen : Nat)] w (RRTo b p r fp (slR R L gen) w) := by
  have c4 : w.cell? ⟨b, 4, none⟩ = some (.bool R.bad) := h.rg.blk.cell 4 rfl
  unfold slR RRTo
  by_cases h0 : gen = 0
  · subst h0
    rw [if_pos rfl]
    have HR := Lib.hid h
    clear h ha
    go_enter Tryz.func51, Tryz.ntmps51
    go_wp2_with fail
    go_ret
    exact ⟨rfl, fp, HR.out, Frm.refl _ _, fun _ h => .inl h⟩
  · rw [if_neg h0]
    have hq : ((gen : Int) == 0) = false := by rw [beq_eq_false_iff_ne]; omega
    cases hb : R.bad with
    | true =>
      rw [hb] at c4
      have HR := Lib.hid h
      clear h hb ha h0
      go_enter Tryz.func51, Tryz.ntmps51
      go_wp2_with fail
      go_ret
      exact ⟨rfl, fp, HR.out, Frm.refl _ _, fun _ h => .inl h⟩
    | false =>
      rw [hb] at c4
      have hn2 := h.rg.lo
      have hdn := h.ln.dok.hi
      have hE : L.D.writeE (R.at_ : Int) (hdB gen) = 0 := writeE_ok (by omega) (by omega) (by rw [hdB_len]; omega)
      have HH := Lib.hid (fun W => refheader_any gen W hgen)
      have HW : Hid (∀ W, Frm (fun _ => False) w W → Calls Tryz.prog 17 #[.pointer (some ⟨p, 0, none⟩), .int .i64 (R.at_ : Nat), .string (bs (hdB gen))] W fun e w' => e = .returned (.int .i64 (L.code 0 : Nat)) ∧ RLnTo p r fp (L.act (wrD R.at_ (hdB gen) L.D)) W w') := Lib.hid fun W gW => by
        have := rlwrite_any p r fp L (R.at_ : Int) (hdB gen) W (h.ln.keepF gW) (by omega) (by unfold Z64; omega) (by rw [hdB_len]; omega)
        rw [hE] at this
        exact this
      have HR := Lib.hid h
      have HA := Lib.hid (And.intro ha hb)
      have hs := LV.act_same L (wrD R.at_ (hdB gen) L.D)
      have HSm := Lib.hid hs
      rw [LV.seq_cons]
      obtain ⟨L1, hL1⟩ : ∃ L1, L.act (wrD R.at_ (hdB gen) L.D) = L1 := ⟨_, rfl⟩
      rw [hL1] at HW HSm ⊢
      clear h ha h0 hE hs hL1 hN hn2 hdn hb
      obtain ⟨hd, hhd⟩ : ∃ hd, hdB gen = hd := ⟨_, rfl⟩
      rw [hhd] at HH HW
      obtain ⟨at_, hat⟩ : ∃ at_, R.at_ = at_ := ⟨_, rfl⟩
      rw [hat] at HW
      have HSx := Lib.hid (show ∀ W, Frm (fun k => k = p ∨ fp k) w W → W.cell? ⟨b, 0, none⟩ = some (.pointer (some ⟨p, 0, none⟩)) ∧ W.cell? ⟨b, 1, none⟩ = some (.int .i64 (at_ : Nat)) from fun W gW => by
        have hk := HR.out.rg.blk.keep gW (fun e => e.elim HR.out.bp HR.out.nf)
        exact ⟨hk.cell 0 rfl, by have e : W.cell? ⟨b, 1, none⟩ = some (.int .i64 (R.at_ : Nat)) := hk.cell 1 rfl; rw [hat] at e; exact e⟩)
      clear hhd hat
      have hcode := L.code_or
      obtain ⟨c, hc⟩ : ∃ c, L.code 0 = c := ⟨_, rfl⟩
      rw [hc] at HW hcode ⊢
      clear hc
      go_enter Tryz.func51, Tryz.ntmps51
      go_upto_region 5 with fail
      refine wp_region_freeO [0, 1, 2, 3, 4, 5, 6, 7, 8] [9, 10, 11] (fun W => W.cell? ⟨b, 0, none⟩ = some (.pointer (some ⟨p, 0, none⟩)) ∧ W.cell? ⟨b, 1, none⟩ = some (.int .i64 (at_ : Nat)))
        (fun i => ([.pointer (some ⟨b, 0, none⟩), .pointer (some ⟨b, 0, none⟩), .pointer (some ⟨b, 0, none⟩), .pointer (some ⟨p, 0, none⟩), .pointer (some ⟨b, 0, none⟩), .pointer (some ⟨b, 0, none⟩), .pointer (some ⟨b, 1, none⟩), .int .i64 (at_ : Nat), .int .u32 (gen : Nat)] : List Value).getD i undef)
        (by kernel_rfl) rfl (by rfl) rfl (by kernel_rfl) (by kernel_rfl) (by kernel_rfl) (by kernel_rfl) (by kernel_rfl) (HSx.out _ (Frm.refl _ w).drew) ?_ ?_
      · repeat'
          (refine ⟨by rfl, fun W hW => ?_, ?_⟩
           · obtain ⟨h1, h2⟩ := hW
             go_simp
           (try simp only [Act.put, List.setIfInBounds_toArray, List.set_cons_zero, List.set_cons_succ]))
        trivial
      · simp only [aP, Act.put, List.setIfInBounds_toArray, List.set_cons_zero, List.set_cons_succ, List.getD_cons_zero, List.getD_cons_succ]
        obtain ⟨wd, hwd⟩ : ∃ wd, w.drew = wd := ⟨_, rfl⟩
        rw [hwd]
        have G0 : Hid (Frm (fun _ => False) w wd) := by rw [← hwd]; exact Lib.hid (Frm.refl _ w).drew
        clear hwd
        refine wpFree.one (i := 9) (M' := [10, 11]) (by kernel_rfl) (by rfl) ?_
        refine wpOp_callD rfl rfl (by rfl) (by go_simp) ((HH.out wd).mono ?_)
        rintro e wA ⟨rfl, gA⟩
        have GA := Lib.hid (G0.out.trans gA)
        clear gA HH G0
        refine ⟨_, rfl, HSx.out wA (GA.out.mono fun _ _ h => h.elim), ?_⟩
        (try simp only [Act.put, List.setIfInBounds_toArray, List.set_cons_zero, List.set_cons_succ])
        refine wpFree.one (i := 10) (M' := [11]) (by kernel_rfl) (by rfl) ?_
        refine wpOp_callD rfl rfl (by rfl) (by go_simp) ((HW.out wA GA.out).mono ?_)
        rintro e wB ⟨rfl, fp1, h1, g1, f1⟩
        have gB : Frm (fun k => k = p ∨ fp k) w wB := (GA.out.mono fun _ _ h => h.elim : Frm (fun k => k = p ∨ fp k) w wA).trans g1
        have fB : ∀ k, fp1 k → fp k ∨ w.heap.size ≤ k := fun k hk => (f1 k hk).imp id fun e => Nat.le_trans GA.out.size e
        have HB := Lib.hid (And.intro h1 (And.intro gB fB))
        clear h1 g1 f1 gB fB HW
        refine ⟨_, rfl, HSx.out wB HB.out.2.1, ?_⟩
        (try simp only [Act.put, List.setIfInBounds_toArray, List.set_cons_zero, List.set_cons_succ])
        refine wpFree.one (i := 11) (M' := []) (by kernel_rfl) (by rfl) ?_
        refine wpOp.val rfl (by rfl) (fun K hK => ?_)
        unfold Oper.wp execOp
        go_simp
        refine hK _ _ ⟨HSx.out wB HB.out.2.1, ?_⟩
        clear hK K
        (try simp only [Act.put, List.setIfInBounds_toArray, List.set_cons_zero, List.set_cons_succ])
        refine wpFree.done ?_
        have hM := HR.out.lined HB.out.1 HB.out.2.1 HB.out.2.2 HSm.out.1 HSm.out.2.2.2
        rcases hcode with rfl | rfl
        · have HF := Lib.hid (refflush_any b p r fp1 R L1 wB hM (by have := HSm.out.2.1; have := HA.out.1; omega))
          clear hM
          go_wp2_with fail
          refine HF.out.mono ?_
          rintro e wC ⟨rfl, fp2, h2, g2, f2⟩
          have hr : flR R L1 = ({ R with bad := errB (L1.seq [DV.flush]).2 }, (L1.seq [DV.flush]).1, (L1.seq [DV.flush]).2) := by unfold flR; rw [HA.out.2]; rfl
          rw [hr] at h2 ⊢
          have g9 : Frm (fun k => k = b ∨ k = p ∨ fp k) w wC := (HB.out.2.1.mono fun _ _ h => .inr h : Frm (fun k => k = b ∨ k = p ∨ fp k) w wB).next g2 fun k hk hX => by
            rcases hX with h | h | h
            · exact .inl h
            · exact .inr (.inl h)
            · rcases HB.out.2.2 k h with h | h
              · exact .inr (.inr h)
              · omega
          have H9 := Lib.hid (And.intro h2 (And.intro g9 (show ∀ k, fp2 k → fp k ∨ w.heap.size ≤ k from fun k hk => by
            rcases f2 k hk with h | h
            · exact HB.out.2.2 k h
            · exact .inr (Nat.le_trans HB.out.2.1.size h))))
          clear h2 g2 f2 g9 hr HF
          go_wp2_with fail
          go_ret
          exact ⟨rfl, fp2, H9.out.1, H9.out.2.1, H9.out.2.2⟩
        · have hBk := hM.broke
          have f4 := hM.rg.blk.free 4
          have c04 : wB.cell? ⟨b, 4, none⟩ = some (.bool R.bad) := hM.rg.blk.cell 4 rfl
          have H1 := Lib.hid (And.intro hBk.1 ((HB.out.2.1.mono fun _ _ h => .inr h : Frm (fun k => k = b ∨ k = p ∨ fp k) w wB).trans (hBk.2.mono fun _ _ h => .inl h)))
          clear hM hBk
          go_wp2_with fail
          go_ret
          exact ⟨rfl, fp1, H1.out.1, H1.out.2, HB.out.2.2⟩
end Go.Proofs.YtdhnidmeeocajaaGreat
end
