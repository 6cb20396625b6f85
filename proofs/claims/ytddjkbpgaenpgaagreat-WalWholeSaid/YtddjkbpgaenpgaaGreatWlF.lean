/- As Late: operations that only read (not waiting for each other) may come up late among the stores at the end, where these leave what they read. Of no program. No condition. -/
import Derived.Test.YtddjkbpgaenpgaaGreatLate
import Derived.Test.YtddjkbpgaenpgaaGreatCanonS
section
namespace Go.Proofs.YtddjkbpgaenpgaaGreat
open Go.RowKit

section
variable {P : Program} {ops : Array Oper} {Q : Exit → Act → World → Prop} {md : Region.Mode} {S : World → Prop}
/-- m operations from the r-th one on, one behind the other, each of which leaves a world that meets S. -/
def wpTailS (P : Program) (ops : Array Oper) (Q : Exit → Act → World → Prop) (S : World → Prop) : Nat → Nat → Act → World → Prop
  | _, 0, a, w => Q .normal a w
  | r, m + 1, a, w => wpOp P ops Q r (fun a w => S w ∧ wpTailS P ops Q S (r + 1) m a w) a w
theorem wpTailS.cons {r m : Nat} {a : Act} {w : World} {o : Oper} (hi : ops[r]? = some o) (hg : o.guard = none) (h : ∀ K : Act → World → Prop, (∀ a w, S w → wpTailS P ops Q S (r + 1) m a w → K a w) → o.wp P a w K Q) : wpTailS P ops Q S r (m + 1) a w := by
  show wpOp P ops Q r _ a w
  unfold wpOp
  simp only [hi]
  rw [if_pos (by unfold Region.wanted; rw [hg])]
  exact .inl (h _ fun a w h1 h2 => ⟨h1, h2⟩)
theorem wpTailS.done {r : Nat} {a : Act} {w : World} (h : Q .normal a w) : wpTailS P ops (QN Q) S r 0 a w := h
/-- Operation k would answer val k at a, in each world that meets S. -/
def FloatW (P : Program) (ops : Array Oper) (S : World → Prop) (val : Nat → Value) (a : Act) (k : Nat) : Prop := ∃ o, ops[k]? = some o ∧ Region.wanted o (yielded ops a.tmps) = true ∧ (∀ cs b, o.op ≠ .select cs b) ∧ ∀ W, S W → (execOp a.eval o).run P W = .ok (.value (val k)) W
theorem FloatW.put {val : Nat → Value} {a : Act} {k j : Nat} {o : Oper} (h : FloatW P ops S val a k) (hj : ops[j]? = some o) (hbl : blind ops k j) (u : Value) : FloatW P ops S val (a.put o.dst u) k := by
  obtain ⟨p, hp, hw, hs, hr⟩ := h
  have hb := hbl p hp
  have hdd : ∀ d, o.dst = some d → d ∉ p.looksAt ops := fun d hd => hb d (by simp [dstOf, hj, hd])
  refine ⟨p, hp, ?_, hs, fun W hW => ?_⟩
  · rw [wanted_put p a _ _ hdd]; exact hw
  · rw [execOp_put p hs a _ _ hdd]; exact hr W hW
theorem lateW_any (hb : canonB md ops = true) (hd : distB ops = true) (hsel : ∀ (j : Nat) (o : Oper) cs b, ops[j]? = some o → o.op ≠ .select cs b) {r : Nat} (val : Nat → Value) :
    ∀ (n t m : Nat) (L : List Nat) (listed : Array Bool) (a : Act) (W : World), m + L.length = n → ops.size = t + m → r ≤ t → L.Nodup → (∀ k ∈ L, k < r) → listed.size = ops.size → (∀ k, k < ops.size → (listed.getD k false = false ↔ k ∈ L ∨ t ≤ k)) →
      (∀ k, k + 1 < m → waits md ops (t + k + 1) (t + k) = true) → (∀ j ∈ L, ∀ k ∈ L, waits md ops j k = false) → (∀ k ∈ L, FloatW P ops S val a k) → S W → wpTailS P ops (QN Q) S t m (aL ops val a L) W → wpAny P md ops Q n listed a W := by
  intro n
  induction n with
  | zero =>
    intro t m L listed a W hn hsz hrt hnd hL hls hli hch hmu hfl hS ht
    have hm : m = 0 := by omega
    subst hm
    have hL0 : L = [] := List.eq_nil_of_length_eq_zero (by omega)
    subst hL0
    refine ⟨?_, ht⟩
    rw [List.eq_nil_iff_forall_not_mem]
    intro k hk
    obtain ⟨hun, o, ho, _⟩ := mem_ready.1 hk
    have hks : k < ops.size := (Array.getElem?_eq_some_iff.1 ho).1
    have hkl : k < listed.size := by omega
    have : listed.getD k false = false := by simp [hkl] at hun ⊢; exact hun
    rcases (hli k hks).1 this with h | h
    · cases h
    · omega
  | succ n ih =>
    intro t m L listed a W hn hsz hrt hnd hL hls hli hch hmu hfl hS ht
    have hgt : ∀ k, k < ops.size → listed.getD k true = listed.getD k false := fun k hk => by
      have : k < listed.size := by omega
      simp [this]
    have hset : ∀ j k, j < ops.size → ((listed.setIfInBounds j true).getD k false = false ↔ k ≠ j ∧ listed.getD k false = false) := fun j k hj => by
      by_cases e : j = k
      · subst e
        have : j < listed.size := by omega
        simp [this]
      · rw [getD_set_ne false e]
        simp [Ne.symm e]
    refine ⟨fun hr0 => ?_, fun j hj => ?_⟩
    · exfalso
      cases L with
      | nil =>
        simp at hn
        have hts : t < ops.size := by omega
        have : t ∈ Region.ready md ops listed := mem_ready.2 ⟨by rw [hgt t hts]; exact (hli t hts).2 (.inr (Nat.le_refl _)), _, Array.getElem?_eq_getElem hts, fun e he hbd => by
          have hw : waits md ops t e.on = true := (waits_iff (Array.getElem?_eq_getElem hts)).2 ⟨e, he, hbd, rfl⟩
          have hlt := canon_lt hb hw
          cases hq : listed.getD e.on false with
          | true => rfl
          | false => rcases (hli _ (by omega)).1 hq with h | h
                     · cases h
                     · omega⟩
        rw [hr0] at this
        cases this
      | cons k L =>
        have hkr := hL k List.mem_cons_self
        have hks : k < ops.size := by omega
        have : k ∈ Region.ready md ops listed := mem_ready.2 ⟨by rw [hgt k hks]; exact (hli k hks).2 (.inl List.mem_cons_self), _, Array.getElem?_eq_getElem hks, fun e he hbd => by
          have hw : waits md ops k e.on = true := (waits_iff (Array.getElem?_eq_getElem hks)).2 ⟨e, he, hbd, rfl⟩
          have hlt := canon_lt hb hw
          cases hq : listed.getD e.on false with
          | true => rfl
          | false => rcases (hli _ (by omega)).1 hq with h | h
                     · rw [hmu k List.mem_cons_self _ h] at hw; cases hw
                     · omega⟩
        rw [hr0] at this
        cases this
    · obtain ⟨hun, o, ho, hafter⟩ := mem_ready.1 hj
      have hjs : j < ops.size := (Array.getElem?_eq_some_iff.1 ho).1
      rw [hgt j hjs] at hun
      have hdep : ∀ k, waits md ops j k = true → listed.getD k false = true := fun k hk => by
        obtain ⟨e, he, hbd, rfl⟩ := (waits_iff ho).1 hk
        exact hafter e he hbd
      rcases (hli j hjs).1 hun with hjL | hjt
      · obtain ⟨p, hp, hw, _, hrun⟩ := hfl j hjL
        rw [ho] at hp
        obtain rfl := Option.some.inj hp
        have hlen := List.length_erase_of_mem hjL
        have hpos := List.length_pos_of_mem hjL
        unfold wpOp
        simp only [ho]
        rw [if_pos hw]
        left
        unfold Oper.wp
        rw [hrun W hS]
        show wpAny P md ops Q n _ (a.put o.dst (val j)) W
        have e0 : dstOf ops j = o.dst := by simp [dstOf, ho]
        refine ih t m (L.erase j) _ _ W (by omega) hsz hrt (hnd.erase j) (fun k hk => hL k (List.mem_of_mem_erase hk)) (by simp [hls]) (fun k hk => ?_) hch (fun x hx y hy => hmu x (List.mem_of_mem_erase hx) y (List.mem_of_mem_erase hy)) (fun k hk => ?_) hS ?_
        · rw [hset j k hjs, hli k hk, hnd.mem_erase_iff]
          constructor
          · rintro ⟨h1, h2 | h2⟩
            · exact .inl ⟨h1, h2⟩
            · exact .inr h2
          · rintro (⟨h1, h2⟩ | h2)
            · exact ⟨h1, .inl h2⟩
            · exact ⟨by have := hL j hjL; omega, .inr h2⟩
        · rw [hnd.mem_erase_iff] at hk
          exact (hfl k hk.2).put ho (blind_of hb (by have := hL k hk.2; omega) hjs hk.1 (hmu k hk.2 j hjL) (hmu j hjL k hk.2)) _
        · have := aL_perm hd val (List.perm_cons_erase hjL) a
          rw [this] at ht
          show wpTailS P ops (QN Q) S t m (aL ops val (a.put o.dst (val j)) (L.erase j)) W
          rw [← e0]
          exact ht
      · have hjt' : j = t := by
          rcases Nat.eq_or_lt_of_le hjt with h | h
          · exact h.symm
          · exfalso
            have h1 := hch (j - 1 - t) (by omega)
            rw [show t + (j - 1 - t) + 1 = j by omega, show t + (j - 1 - t) = j - 1 by omega] at h1
            have h2 := hdep _ h1
            rw [(hli (j - 1) (by omega)).2 (.inr (by omega))] at h2
            cases h2
        subst hjt'
        obtain ⟨m, rfl⟩ : ∃ m', m = m' + 1 := ⟨m - 1, by omega⟩
        have hnot : ∀ k ∈ L, waits md ops j k = false := fun k hk => by
          cases hw : waits md ops j k with
          | false => rfl
          | true =>
            have h2 := hdep k hw
            rw [(hli k (by have := hL k hk; omega)).2 (.inl hk)] at h2
            cases h2
        have hnot2 : ∀ k ∈ L, waits md ops k j = false := fun k hk => by
          cases hw : waits md ops k j with
          | false => rfl
          | true => have := canon_lt hb hw; have := hL k hk; omega
        have hjL : j ∉ L := fun h => by have := hL j h; omega
        have hbl := blind_exec ho (fun cs b => hsel j o cs b ho) val L a fun k hk => blind_of hb hjs (by have := hL k hk; omega) (fun e => hjL (e ▸ hk)) (hnot k hk) (hnot2 k hk)
        have hnext : ∀ a' W', (∀ k ∈ L, FloatW P ops S val a' k) → S W' → wpTailS P ops (QN Q) S (j + 1) m (aL ops val a' L) W' → wpAny P md ops Q n (listed.setIfInBounds j true) a' W' := fun a' W' hf' hS' ht' =>
          ih (j + 1) m L _ a' W' (by omega) (by omega) (by omega) hnd hL (by simp [hls]) (fun k hk => by
            rw [hset j k hjs, hli k hk]
            constructor
            · rintro ⟨h1, h2 | h2⟩
              · exact .inl h2
              · exact .inr (by omega)
            · rintro (h2 | h2)
              · exact ⟨fun e => hjL (e ▸ h2), .inl h2⟩
              · exact ⟨by omega, .inr (by omega)⟩) (fun k hk => by
            have := hch (k + 1) (by omega)
            rwa [show j + (k + 1) + 1 = j + 1 + k + 1 by omega, show j + (k + 1) = j + 1 + k by omega] at this) hmu hf' hS' ht'
        have hfp : ∀ (a' : Act), (∀ k ∈ L, FloatW P ops S val a' k) → ∀ u, ∀ k ∈ L, FloatW P ops S val (a'.put o.dst u) k := fun a' hf' u k hk =>
          (hf' k hk).put ho (blind_of hb (by have := hL k hk; omega) hjs (fun e => hjL (e ▸ hk)) (hnot2 k hk) (hnot k hk)) u
        refine wpOp_late ho hbl.1 hbl.2 (fun u w' h => ?_) (fun d w' h => ?_) ht
        · rw [aL_out hd val ho u L hjL] at h
          exact hnext _ _ (hfp a hfl u) h.1 h.2
        · rw [(aL_defers val L a []).2, ← (aL_defers val L a _).1, aL_out hd val ho undef L hjL] at h
          exact hnext _ _ (hfp _ (fun k hk => by
            obtain ⟨p, hp, hw, hs, hr⟩ := hfl k hk
            exact ⟨p, hp, hw, hs, hr⟩) undef) h.1 h.2
/-- Does an operation make a variable? -/

def freeB (md : Region.Mode) (ops : Array Oper) (r : Nat) : Bool := (List.range r).all fun j => (List.range r).all fun k => !waits md ops j k
def chainB (md : Region.Mode) (ops : Array Oper) (r m : Nat) : Bool := (List.range (m - 1)).all fun k => waits md ops (r + k + 1) (r + k)
theorem wp_region_lateW {id : Nat} {a : Act} {w : World} (r m : Nat) (S : World → Prop) (val : Nat → Value) {os' os ts : List Oper} (hm : P.follows .mixedOrders = true) (hos' : ops = os'.toArray) (hsp : splitN r os' = some (os, ts)) (hsz : ops.size = r + m)
    (hn : Region.noSelect ops = true) (hb : canonB .any ops = true) (hd : distB ops = true) (hf : freeB .any ops r = true) (hch : chainB .any ops r m = true) (hS : S w.drew)
    (hfl : ∀ k (h : k < os.length), Region.wanted os[k] (yielded ops a.tmps) = true ∧ ∀ W, S W → (execOp a.eval os[k]).run P W = .ok (.value (val k)) W)
    (ht : wpTailS P ops (QN Q) S r m (aO val a os 0) w.drew) : (Code.region id ops true).wp P Q a w := by
  obtain ⟨h1, h2⟩ := splitN_eq _ _ _ _ hsp
  have hopt : ∀ t (h : t < os.length), ops[t]? = some os[t] := fun t h => by
    subst hos'
    simp [h1, List.getElem?_append, h]
  refine wp_region_any hm ?_
  refine lateW_any (r := r) hb hd (Region.noSelect_spec hn) val ops.size r m (List.range r) _ a _ (by simp; omega) hsz (Nat.le_refl _) List.nodup_range (fun k hk => List.mem_range.1 hk) (by simp) (fun k hk => by simp [hk]; omega) (fun k hk => by
    simp only [chainB, List.all_eq_true, List.mem_range] at hch
    exact hch k (by omega)) (fun j hj k hk => by
    simp only [freeB, List.all_eq_true, List.mem_range, Bool.not_eq_true'] at hf
    exact hf j (List.mem_range.1 hj) k (List.mem_range.1 hk)) (fun k hk => ?_) hS ?_
  · have hk := List.mem_range.1 hk
    obtain ⟨g1, g2⟩ := hfl k (by omega)
    exact ⟨_, hopt k (by omega), g1, fun cs b => Region.noSelect_spec hn k _ cs b (hopt k (by omega)), g2⟩
  · have e1 : List.range r = List.range' 0 os.length := by rw [h2, List.range_eq_range']
    rw [e1, aL_aO val os 0 a (fun t h => by rw [Nat.zero_add]; exact hopt t h)]
    exact ht
end
end Go.Proofs.YtddjkbpgaenpgaaGreat
end
section
namespace Go.Proofs.YtddjkbpgaenpgaaGreat
open Go.RowKit Go.Shelf

theorem FmtTo.from {l b f x : Nat} {L : LV} {q m : Int} {w w1 w' : World} {e : Ending} (h : FmtTo l b f x L q m w1 e w') (g : Frm (fun _ => False) w w1) : FmtTo l b f x L q m w e w' := by
  obtain ⟨v, h1, h2, h3, h4, h5⟩ := h
  exact ⟨v, h1, h2, (g.mono fun _ _ h => h.elim).trans h3, fun hc => by
    obtain ⟨g', e1, h6, h7⟩ := h4 hc
    exact ⟨g', e1, Nat.le_trans g.size h6, h7⟩, h5⟩
set_option maxRecDepth 100000 in
set_option maxHeartbeats 4000000 in
theorem wformat_any (q l b f x : Nat) (V : WV) (rp : Option Addr) (L : LV) (s : Nat) (w : World) (h : Wlk w q l V rp) (hl : LnM w l b f x L) (hs : s ≤ 1) (hn : V.n ≤ 2048) (ha : L.acts ≤ 900000) (hP : L.cs.length = 0 ∨ ∀ k, L.P k → k < w.heap.size) :
    Calls Tryz.prog 144 #[.pointer (some ⟨q, 0, none⟩), .int .i64 (s : Nat)] w (FmtTo l b f x L ((s * V.n : Nat) : Int) (V.n : Nat) w) := by
  have c1 := Blk.cell h 1 rfl
  have c2 := Blk.cell h 2 rfl
  have hm : s * V.n ≤ 2048 := by
    rcases (by omega : s = 0 ∨ s = 1) with rfl | rfl <;> omega
  have hw1 : IntKind.i64.wrap ((s : Int) * (V.n : Int)) = ((s * V.n : Nat) : Int) := by rw [← Int.natCast_mul]; exact IntWalk.i64_in _ (by omega)
  have HF := Lib.hid (fun W (gW : Frm (fun _ => False) w W) => format_any l b f x L ((s * V.n : Nat) : Int) (V.n : Nat) W (hl.keepF gW) ha (by unfold Z64; omega) (by unfold Z64; omega) (hP.imp id fun q k hk => by have := q k hk; have := gW.size; omega))
  obtain ⟨m, hmm⟩ : ∃ m, s * V.n = m := ⟨_, rfl⟩
  obtain ⟨n, hnn⟩ : ∃ n, V.n = n := ⟨_, rfl⟩
  rw [hmm, hnn] at HF
  rw [hmm, hnn] at hw1
  rw [hmm, hnn]
  rw [hnn] at c2
  clear h hl hP hmm hnn hm
  go_enter Tryz.func144, Tryz.ntmps144
  go_upto_region 1 with fail
  refine wp_region_stage 14 4 (fun w' => w'.cell? ⟨q, 1, none⟩ = some (.pointer (some ⟨l, 0, none⟩)) ∧ w'.cell? ⟨q, 2, none⟩ = some (.int .i64 (n : Nat)) ∧ Frm (fun _ => False) w w') (by kernel_rfl) rfl rfl (by kernel_rfl) (by kernel_rfl) (by kernel_rfl) (by kernel_rfl) (⟨c1, c2, (Frm.refl _ w).drew⟩) ?_
  repeat' first
    | (refine CanonL.skip (by rfl) ?_; (try simp only [Act.put, List.setIfInBounds_toArray, List.set_cons_zero, List.set_cons_succ]))
    | (refine CanonL.val (v := ?_) (by rfl) ?_ ?_; rotate_left 1; (focus (intro w hSw; (try dsimp only at hSw); go_simp; (try (with_reducible rfl)); done)); (try simp only [Act.put, List.setIfInBounds_toArray, List.set_cons_zero, List.set_cons_succ]))
  refine CanonL.done ?_
  intro w9 hS9
  obtain ⟨_, _, g9⟩ := hS9
  refine wpOp_callD rfl rfl (by rfl) (by go_simp) ((HF.out w9 g9).mono ?_)
  intro e wb hb0
  obtain ⟨v, rfl, hb1⟩ := hb0.from g9
  have HB := Lib.hid hb1
  clear hb0 hb1 g9 HF
  refine ⟨_, rfl, ?_⟩
  simp only [Act.put, List.setIfInBounds_toArray, List.set_cons_zero, List.set_cons_succ]
  obtain ⟨c, hc⟩ : ∃ c, (fmtR L (m : Int) (n : Int)).2 = c := ⟨_, rfl⟩
  have HC := Lib.hid hc
  rw [hc]
  clear hc
  refine ⟨fun w' => w' = wb, rfl, ?_⟩
  repeat' first
    | (refine CanonL.skip (by rfl) ?_; (try simp only [Act.put, List.setIfInBounds_toArray, List.set_cons_zero, List.set_cons_succ]))
    | (refine CanonL.val (v := ?_) (by rfl) ?_ ?_; rotate_left 1; (focus (intro w hSw; (try dsimp only at hSw); go_simp; (try (with_reducible rfl)); done)); (try simp only [Act.put, List.setIfInBounds_toArray, List.set_cons_zero, List.set_cons_succ]))
  refine CanonL.done ?_
  intro w9 hS9
  obtain rfl := hS9
  go_wp2_with fail
  go_ret2
  rw [← HC.out]
  exact ⟨v, rfl, HB.out⟩
set_option maxRecDepth 100000 in
set_option maxHeartbeats 4000000 in
theorem wforget_any (q l b f x : Nat) (V : WV) (rp : Option Addr) (L : LV) (w : World) (h : Wlk w q l V rp) (hl : LnM w l b f x L) (hn : V.n ≤ 2048) (ha : L.acts ≤ 900000) (hP : L.cs.length = 0 ∨ ∀ k, L.P k → k < w.heap.size) :
    Calls Tryz.prog 93 #[.pointer (some ⟨q, 0, none⟩)] w fun e w' => e = .returned (.int .i64 ((fmtR L (V.n : Int) (V.n : Int)).2 : Nat)) ∧ LnM w' l b f x (fmtR L (V.n : Int) (V.n : Int)).1 ∧ Frm (LnX l f x) w w' := by
  have HF := wformat_any q l b f x V rp L 1 w h hl (Nat.le_refl _) hn ha hP
  rw [Nat.one_mul] at HF
  unfold FmtTo at HF
  obtain ⟨c, hc⟩ : ∃ c, (fmtR L (V.n : Int) (V.n : Int)).2 = c := ⟨_, rfl⟩
  rw [hc] at HF ⊢
  have HF := Lib.hid HF
  clear h hl hP hc
  go_enter Tryz.func93, Tryz.ntmps93
  go_wp2_with fail
  refine HF.out.mono ?_
  rintro e w1 ⟨v, rfl, h1, h2, _⟩
  have H1 := Lib.hid (And.intro h1 h2)
  clear h1 h2 HF
  go_wp2_with fail
  go_ret
  exact ⟨rfl, H1.out⟩
set_option maxHeartbeats 1000000 in
theorem anew1_any (B C g l b f x : Nat) (R : RV) (L : LV) (s : List UInt8) (w : World) (h : RgM w g l b f x R L) (c0 : w.cell? ⟨B, 0, none⟩ = some (.pointer (some ⟨g, 0, none⟩))) (c1 : w.cell? ⟨C, 0, none⟩ = some (.string (bs s))) (ha : L.acts ≤ 900000) (hs : s.length ≤ 1000000) (hP : L.cs.length = 0 ∨ ∀ k, L.P k → k < w.heap.size) :
    Calls Tryz.prog 145 #[.pointer (some ⟨B, 0, none⟩), .pointer (some ⟨C, 0, none⟩)] w (RgTo g l b f x (apR R L s) w) := by
  have HA := Lib.hid (rappend_any g l b f x R L s w h ha hs hP)
  clear h hP
  go_enter Tryz.func145, Tryz.ntmps145
  go_wp2_with fail
  refine HA.out.mono ?_
  rintro e w1 ⟨rfl, h1, h2⟩
  have H1 := Lib.hid (And.intro h1 h2)
  clear h1 h2 HA
  go_wp2_with fail
  go_ret
  exact ⟨rfl, H1.out⟩
set_option maxHeartbeats 1000000 in
theorem anew2_any (B C g l b f x gen : Nat) (R : RV) (L : LV) (w : World) (h : RgM w g l b f x R L) (c0 : w.cell? ⟨B, 0, none⟩ = some (.pointer (some ⟨g, 0, none⟩))) (c1 : w.cell? ⟨C, 0, none⟩ = some (.int .u32 (gen : Nat))) (ha : L.acts ≤ 900000) (hg : gen < 4294967296) :
    Calls Tryz.prog 146 #[.pointer (some ⟨B, 0, none⟩), .pointer (some ⟨C, 0, none⟩)] w (RgTo g l b f x (slR R L gen) w) := by
  have HA := Lib.hid (rseal_any g l b f x gen R L w h ha hg)
  clear h
  go_enter Tryz.func146, Tryz.ntmps146
  go_wp2_with fail
  refine HA.out.mono ?_
  rintro e w1 ⟨rfl, h1, h2⟩
  have H1 := Lib.hid (And.intro h1 h2)
  clear h1 h2 HA
  go_wp2_with fail
  go_ret
  exact ⟨rfl, H1.out⟩
end Go.Proofs.YtddjkbpgaenpgaaGreat
end
section
namespace Go.Proofs.YtddjkbpgaenpgaaGreat
open Go.RowKit Go.Shelf

/-- A log in memory, over its line. -/
structure WlM (w : World) (q l b f x : Nat) (V : WV) (rp : Option Addr) (L : LV) : Prop where
  blk : Wlk w q l V rp
  ln : LnM w l b f x L
  ne : q ≠ l ∧ q ≠ b ∧ q ≠ f ∧ q ≠ x
  np : L.cs.length = 0 ∨ ∀ k, L.P k → k ≠ q
  ok : V.ok L.D.n
/-- The blocks that calls on a log change, beside its region. -/
def WlX (q l f x : Nat) (k : Nat) : Prop := k = q ∨ LnX l f x k
section
variable {w w' : World} {q l b f x g : Nat} {V V' : WV} {rp : Option Addr} {L L' : LV} {R : RV}
theorem WlM.keepF (h : WlM w q l b f x V rp L) (hf : Frm (fun _ => False) w w') : WlM w' q l b f x V rp L := ⟨h.blk.keepF hf, h.ln.keepF hf, h.ne, h.np, h.ok⟩
theorem WlM.qlt (h : WlM w q l b f x V rp L) : q < w.heap.size := Blk.lt h.blk
theorem WlM.notL (h : WlM w q l b f x V rp L) : ¬ LnX l f x q := notX h.ne.1 h.ne.2.2.1 h.ne.2.2.2
/-- The line did something. -/
theorem WlM.lined (h : WlM w q l b f x V rp L) {X : Nat → Prop} (h1 : LnM w' l b f x L') (hg : Frm X w w') (hX : ¬ X q) (hP : L'.P = L.P) (hc : L'.cs = L.cs) (hn : L'.D.n = L.D.n) : WlM w' q l b f x V rp L' :=
  ⟨h.blk.keepX hg hX, h1, h.ne, by rw [hc, hP]; exact h.np, by rw [hn]; exact h.ok⟩
end
/-- What fmtR, apR, flR, slR leave of a line. -/
structure Ls (L L' : LV) (k : Nat) : Prop where
  P : L'.P = L.P
  cs : L'.cs = L.cs
  cut : L'.cut = L.cut
  n : L'.D.n = L.D.n
  acts : L'.acts ≤ L.acts + k
theorem Ls.refl (L : LV) (k : Nat) : Ls L L k := ⟨rfl, rfl, rfl, rfl, Nat.le_add_right _ _⟩
theorem Ls.trans {L L' L'' : LV} {j k : Nat} (h : Ls L L' j) (h2 : Ls L' L'' k) : Ls L L'' (j + k) := ⟨h2.P.trans h.P, h2.cs.trans h.cs, h2.cut.trans h.cut, h2.n.trans h.n, by have := h.acts; have := h2.acts; omega⟩
theorem Ls.mono {L L' : LV} {j k : Nat} (h : Ls L L' j) (hk : j ≤ k) : Ls L L' k := ⟨h.P, h.cs, h.cut, h.n, by have := h.acts; omega⟩
theorem Ls.seq (L : LV) (l : List (DV → DV)) (hn : ∀ F ∈ l, ∀ D : DV, (F D).n = D.n) : Ls L (L.seq l).1 l.length := by
  have h := LV.seq_same l L hn
  exact ⟨h.1, h.2.2.2.1, h.2.2.1, h.2.2.2.2, h.2.1⟩
theorem ls_fmt (L : LV) (A n : Nat) : Ls L (fmtR L (A : Int) (n : Int)).1 (n + 1) := by
  unfold fmtR
  split
  · rw [Int.toNat_natCast, Int.toNat_natCast]
    have := Ls.seq L (fmtA A n) (fmtA_n A n)
    rwa [fmtA_len] at this
  · exact Ls.refl _ _
theorem ls_ap (R : RV) (L : LV) (s : List UInt8) : Ls L (apR R L s).2.1 (R.n + 1) ∧ (apR R L s).1.at_ = R.at_ ∧ (apR R L s).1.n = R.n := by
  unfold apR
  split
  · exact ⟨Ls.refl _ _, rfl, rfl⟩
  split
  · exact ⟨Ls.refl _ _, rfl, rfl⟩
  · rename_i h1 h2
    have hs := Ls.seq L (wrs (R.at_ + 1 + R.used) (blks (R.used + 1) s)) (wrs_n _ _)
    have hl : (wrs (R.at_ + 1 + R.used) (blks (R.used + 1) s)).length ≤ R.n + 1 := by rw [wrs_len, blks_len]; unfold RV.left at h2; omega
    split <;> exact ⟨hs.mono hl, rfl, rfl⟩
theorem ls_fl (R : RV) (L : LV) : Ls L (flR R L).2.1 1 ∧ (flR R L).1.at_ = R.at_ ∧ (flR R L).1.n = R.n := by
  unfold flR
  split
  · exact ⟨Ls.refl _ _, rfl, rfl⟩
  · exact ⟨Ls.seq L [DV.flush] fl_n, rfl, rfl⟩
theorem ls_sl (R : RV) (L : LV) (g : Nat) : Ls L (slR R L g).2.1 2 ∧ (slR R L g).1.at_ = R.at_ ∧ (slR R L g).1.n = R.n := by
  unfold slR
  split
  · exact ⟨Ls.refl _ _, rfl, rfl⟩
  split
  · exact ⟨Ls.refl _ _, rfl, rfl⟩
  · exact ⟨Ls.seq L [wrD R.at_ (hdB g), DV.flush] (fun F hF D => by
      rcases List.mem_cons.1 hF with rfl | hF
      · exact writeTo_n D _ _
      · rw [List.mem_singleton.1 hF]; rfl), rfl, rfl⟩
theorem ls_an (L : LV) (A n gen : Nat) (t : List UInt8) : Ls L (anR L A n gen t).2.1 (2 * n + 5) ∧ (anR L A n gen t).1.at_ = A ∧ (anR L A n gen t).1.n = n := by
  have h1 := ls_fmt L A n
  have h2 := ls_ap ⟨A, n, 0, false⟩ (fmtR L (A : Int) (n : Int)).1 t
  have h3 := ls_fl (apR ⟨A, n, 0, false⟩ (fmtR L (A : Int) (n : Int)).1 t).1 (apR ⟨A, n, 0, false⟩ (fmtR L (A : Int) (n : Int)).1 t).2.1
  have h4 := ls_sl (flR (apR ⟨A, n, 0, false⟩ (fmtR L (A : Int) (n : Int)).1 t).1 (apR ⟨A, n, 0, false⟩ (fmtR L (A : Int) (n : Int)).1 t).2.1).1 (flR (apR ⟨A, n, 0, false⟩ (fmtR L (A : Int) (n : Int)).1 t).1 (apR ⟨A, n, 0, false⟩ (fmtR L (A : Int) (n : Int)).1 t).2.1).2.1 gen
  have h2' : Ls _ _ (n + 1) := h2.1
  have e1 : (apR ⟨A, n, 0, false⟩ (fmtR L (A : Int) (n : Int)).1 t).1.at_ = A ∧ (apR ⟨A, n, 0, false⟩ (fmtR L (A : Int) (n : Int)).1 t).1.n = n := h2.2
  unfold anR
  split
  · exact ⟨h1.mono (by omega), rfl, rfl⟩
  split
  · exact ⟨(h1.trans h2').mono (by omega), e1⟩
  split
  · exact ⟨((h1.trans h2').trans h3.1).mono (by omega), h3.2.1.trans e1.1, h3.2.2.trans e1.2⟩
  · exact ⟨(((h1.trans h2').trans h3.1).trans h4.1).mono (by omega), h4.2.1.trans (h3.2.1.trans e1.1), h4.2.2.trans (h3.2.2.trans e1.2)⟩
end Go.Proofs.YtddjkbpgaenpgaaGreat
end
