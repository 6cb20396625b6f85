/- What lies between two acts of SiblingKnows: four registers, and what is known at four replicas; how many events those can be. No condition. -/
import Derived.Test.YtojbgckabifnjaaSwD
import Derived.Test.YtojbgckabifnjaaKnB
import Derived.Test.YtojbgckabifnjaaKnC
import Derived.Test.YtojbgckabifnjaaSwB
namespace Go.Proofs.Ytojbgckabifnjaa
open Go.RowKit

set_option maxRecDepth 100000 in
set_option maxHeartbeats 2000000 in
theorem ldots_new (v : Value) (l : List DotI) (w : World) (h : DL w v l) (hb : l.length ≤ 1000) :
    Calls Try.prog 21 #[v] w fun e w' => ∃ v', e = .returned v' ∧ OwnD w' v' l ∧ (∀ g, v'.ownBlock = some g → w.heap.size ≤ g) ∧ Frm (fun _ => False) w w' := by
  obtain ⟨a, cap, rfl, h1, h2⟩ := h.slice
  unfold maxLen at h2
  go_enter Try.func21, Try.ntmps21
  go_wp2_with fail
  go_loopw [3, 4] (fun u i wr => ∃ k : Nat, k ≤ l.length ∧ i = .int .i64 k ∧ OwnD wr u (l.take k) ∧ (∀ g, u.ownBlock = some g → w.heap.size ≤ g) ∧ Frm (fun _ => False) w wr) (fun _ i _ => l.length - (intOf i).toNat)
  case atStart => exact ⟨0, Nat.zero_le _, rfl, by rw [List.take_zero]; exact OwnD.nil_ _, (fun _ e => by cases e), Frm.refl _ _⟩
  case round =>
    obtain ⟨k, hk, rfl, hO, hN, hF⟩ := hrel
    by_cases hlt : k < l.length
    · obtain ⟨g, off, rfl, x0, x1⟩ := (h.keepF hF).load k hlt
      obtain ⟨a2, c2, rfl, _, _⟩ := Row.slice hO
      have hki : (k : Int) < (l.length : Int) := by omega
      have hk0 : (0 : Int) ≤ (k : Int) := by omega
      have f1 := (Frm.refl (fun _ => False) wr).alloc (.cells #[.int .u8 l[k].r, .int .u32 l[k].n] 48)
      have hone : DL (wr.alloc (.cells #[.int .u8 l[k].r, .int .u32 l[k].n] 48)) (.slice (some ⟨wr.heap.size, 0, none⟩) 1 1) [l[k]] := Sl.built dotc dotc_len wr 48 l[k] #[.int .u8 l[k].r, .int .u32 l[k].n] rfl
      obtain ⟨v', w3, hrun, hown, hgr, hnew⟩ := append_rdots _ _ _ _ [l[k]] (hO.keep f1 (fun _ _ h => h)) hone (by rw [List.length_take]; simp; omega)
      rw [← List.take_succ_eq_append_getElem hlt] at hown
      have HT := Lib.hid (show ∀ g, v'.ownBlock = some g → w.heap.size ≤ g from fun g e => (hnew g e).elim (fun e => hN g e) (fun e => by have := hF.size; simp at e; omega))
      have HF := Lib.hid (show Frm (fun _ => False) w w3 from (hF.trans f1).grown hgr (fun k hk e => by have := hN k e; omega))
      have HO := Lib.hid hown
      have Hrun := Lib.hid hrun
      clear hrun hown hgr hnew hO hN hone
      go_wp2_with (at_builtin; refine Lib.wpList_append_run _ rfl _ _ _ _ rfl _ _ rfl rfl _ _ Hrun.out ?_)
      go_roundw
      case rel => exact ⟨k + 1, by omega, by go_num, HO.out, HT.out, HF.out⟩
      case measure => simp [intOf]; omega
    · obtain rfl : k = l.length := by omega
      rw [List.take_length] at hO
      obtain ⟨a2, c2, rfl, _, _⟩ := Row.slice hO
      go_wp2_with fail
      go_ret
      exact ⟨_, rfl, hO, hN, hF⟩

/-- Unlike numbers below a bound are no more than it says. -/
theorem nodup_len : ∀ (N : Nat) (l : List Nat), l.Nodup → (∀ x ∈ l, x < N) → l.length ≤ N := by
  intro N
  induction N with
  | zero => intro l _ h; cases l with
    | nil => exact Nat.le_refl _
    | cons x l => exact absurd (h x List.mem_cons_self) (by omega)
  | succ N ih =>
    intro l hn h
    have h1 := ih (l.erase N) (hn.erase N) (fun x hx => by
      have h2 := h x (List.mem_of_mem_erase hx)
      have h3 : x ≠ N := fun e => by
        subst e
        exact (List.Nodup.not_mem_erase hn) hx
      omega)
    have h2 := List.length_erase (a := N) (l := l)
    split at h2 <;> omega
theorem KnOf.few {E : List EvI} {f : Nat → Nat} {P : List EvI} (h : KnOf E f P) {k : Nat} (hk : ∀ r, r < 8 → f r ≤ k) : P.length ≤ 8 * (k + 1) := by
  have h1 := nodup_len (8 * (k + 1)) (P.map (fun e => e.x.r * (k + 1) + e.x.n)) ?_ ?_
  · simpa using h1
  · unfold List.Nodup
    rw [List.pairwise_map]
    refine List.Pairwise.imp_of_mem ?_ h.one
    intro a b ha hb hne e
    obtain ⟨a1, a2, a3, a4⟩ := kn_iff.1 ((h.mem a).1 ha).2
    obtain ⟨b1, b2, b3, b4⟩ := kn_iff.1 ((h.mem b).1 hb).2
    have a5 := hk _ a1
    have b5 := hk _ b1
    change a.x.r < 8 at a1
    change b.x.r < 8 at b1
    change a.x.n ≤ f a.x.r at a4
    change b.x.n ≤ f b.x.r at b4
    change f a.x.r ≤ k at a5
    change f b.x.r ≤ k at b5
    refine hne (DotI.ext' ?_ ?_)
    · show a.x.r = b.x.r
      have h1 : (a.x.r * (k + 1) + a.x.n) / (k + 1) = a.x.r := by rw [Nat.mul_comm, Nat.mul_add_div (by omega), Nat.div_eq_of_lt (by omega)]; rfl
      have h2 : (b.x.r * (k + 1) + b.x.n) / (k + 1) = b.x.r := by rw [Nat.mul_comm, Nat.mul_add_div (by omega), Nat.div_eq_of_lt (by omega)]; rfl
      rw [← h1, ← h2]
      exact congrArg (· / (k + 1)) e
    · show a.x.n = b.x.n
      have h1 : (a.x.r * (k + 1) + a.x.n) % (k + 1) = a.x.n := by rw [Nat.mul_comm, Nat.mul_add_mod, Nat.mod_eq_of_lt (by omega)]
      have h2 : (b.x.r * (k + 1) + b.x.n) % (k + 1) = b.x.n := by rw [Nat.mul_comm, Nat.mul_add_mod, Nat.mod_eq_of_lt (by omega)]
      rw [← h1, ← h2]
      exact congrArg (· % (k + 1)) e
  · intro x hx
    obtain ⟨a, ha, rfl⟩ := List.mem_map.1 hx
    obtain ⟨a1, a2, a3, a4⟩ := kn_iff.1 ((h.mem a).1 ha).2
    have a5 := hk _ a1
    change a.x.r < 8 at a1
    change a.x.n ≤ f a.x.r at a4
    change f a.x.r ≤ k at a5
    have h6 : a.x.r * (k + 1) ≤ 7 * (k + 1) := Nat.mul_le_mul_right _ (by omega)
    omega
theorem OneIs.few {F : Nat → Nat → Nat} {L : Nat → List SibI} {x : SActI} {f : Nat → Nat} {l : List SibI} {p q e : Nat} {Dv : List DotI} (h : OneIs F L x f l p q Dv e) : Dv.length ≤ 8 := by
  rcases h with ⟨_, h, _⟩ | ⟨_, h, _⟩ | ⟨_, rfl, _⟩
  · exact h.1
  · exact h.1
  · simp
/-- The cells of what is known at four replicas. -/
abbrev kc (u : Nat → Value) : Array Value := #[u 0, u 1, u 2, u 3]
theorem kc_set (u : Nat → Value) (r : Nat) (hr : r < 4) (x : Value) : (kc u).setIfInBounds r x = kc (setF u r x) := by
  rcases (show r = 0 ∨ r = 1 ∨ r = 2 ∨ r = 3 by omega) with rfl | rfl | rfl | rfl <;> rfl
theorem kc_at (u : Nat → Value) (r : Nat) (hr : r < 4) : (kc u)[r]? = some (u r) := by
  rcases (show r = 0 ∨ r = 1 ∨ r = 2 ∨ r = 3 by omega) with rfl | rfl | rfl | rfl <;> rfl
/-- What lies there. -/
structure MK (w W : World) (A : Nat) (F : Nat → Nat → Nat) (V : Nat → Value) (L : Nat → List SibI) (u : Nat → Value) (Q : Nat → List (EvI × Value)) : Prop where
  all : AllB W A F V
  kn : Blk W (A + 1) 83 (kc u)
  sl : ∀ k, k < 4 → SL W (V k) (L k)
  ne : ∀ k, k < 4 → ∀ g, blkOf (V k) = some g → g ≠ A ∧ g ≠ A + 1
  kl : ∀ k, k < 4 → KL W (u k) (Q k)
  une : ∀ k, k < 4 → ∀ g, blkOf (u k) = some g → g ≠ A ∧ g ≠ A + 1
  dne : ∀ k, k < 4 → ∀ p ∈ Q k, ∀ g, blkOf p.2 = some g → g ≠ A ∧ g ≠ A + 1
  frm : Frm (fun _ => False) w W
section
variable {w W W' : World} {A : Nat} {F : Nat → Nat → Nat} {V : Nat → Value} {L : Nat → List SibI} {u : Nat → Value} {Q : Nat → List (EvI × Value)}
theorem MK.keep (h : MK w W A F V L u Q) (g : Frm (fun _ => False) W W') : MK w W' A F V L u Q :=
  ⟨h.all.keep g (fun h => h), h.kn.keep g (fun h => h), fun k hk => (h.sl k hk).keepF g, h.ne, fun k hk => (h.kl k hk).keepF g, h.une, h.dne, h.frm.trans g⟩
theorem KL.keepN {X : Nat → Prop} {v : Value} {P : List (EvI × Value)} (h : KL W v P) (g : Frm X W W') (h1 : ∀ b, blkOf v = some b → ¬ X b) (h2 : ∀ p ∈ P, ∀ b, blkOf p.2 = some b → ¬ X b) : KL W' v P :=
  ⟨Sl.keep h.sl g h1, fun p hp => Sl.keep (h.ov p hp) g (h2 p hp)⟩
/-- One register is another one now. -/
theorem MK.reg (h : MK w W A F V L u Q) {r : Nat} (hr : r < 4) {f : Nat → Nat} {v : Value} {l : List SibI} (hs : SL W v l) (hn : ∀ g, blkOf v = some g → g ≠ A ∧ g ≠ A + 1) (hA : w.heap.size ≤ A) :
    MK w (W.setCells A (r * 9) (rgc f v).toList) A (setF F r f) (setF V r v) (setF L r l) u Q := by
  have g : Frm (fun q => q = A) W (W.setCells A (r * 9) (rgc f v).toList) := Frm.setCells (X := fun q => q = A) A (fun _ => rfl) _ _ _ (Frm.refl _ W)
  refine ⟨h.all.set hr f v, h.kn.keep g (by omega), fun k hk => ?_, fun k hk q e => ?_, fun k hk => (h.kl k hk).keepN g (fun b e => (h.une k hk b e).1) (fun p hp b e => (h.dne k hk p hp b e).1), h.une, h.dne, h.frm.next g (fun k hk e => by have e : k = A := e; omega)⟩
  · by_cases c : k = r
    · subst c; rw [setF_at, setF_at]; exact hs.keep g (fun b e => (hn b e).1)
    · rw [setF_ne c, setF_ne c]; exact (h.sl k hk).keep g (fun b e => (h.ne k hk b e).1)
  · by_cases c : k = r
    · subst c; rw [setF_at] at e; exact hn q e
    · rw [setF_ne c] at e; exact h.ne k hk q e
/-- What is known at one is other events now. -/
theorem MK.know (h : MK w W A F V L u Q) {r : Nat} (hr : r < 4) {x : Value} {P : List (EvI × Value)} (hx : KL W x P) (h1 : ∀ g, blkOf x = some g → g ≠ A ∧ g ≠ A + 1) (h2 : ∀ p ∈ P, ∀ g, blkOf p.2 = some g → g ≠ A ∧ g ≠ A + 1)
    (g : Frm (· = A + 1) W W') (hb : Blk W' (A + 1) 83 (kc (setF u r x))) (hA : w.heap.size ≤ A) : MK w W' A F V L (setF u r x) (setF Q r P) := by
  refine ⟨h.all.keep g (by omega), hb, fun k hk => (h.sl k hk).keep g (fun b e => (h.ne k hk b e).2), h.ne, fun k hk => ?_, fun k hk b e => ?_, fun k hk p hp b e => ?_, h.frm.next g (fun k hk e => by have e : k = A + 1 := e; omega)⟩
  · by_cases c : k = r
    · subst c; rw [setF_at, setF_at]; exact hx.keepN g (fun b e => (h1 b e).2) (fun p hp b e => (h2 p hp b e).2)
    · rw [setF_ne c, setF_ne c]; exact (h.kl k hk).keepN g (fun b e => (h.une k hk b e).2) (fun p hp b e => (h.dne k hk p hp b e).2)
  · by_cases c : k = r
    · subst c; rw [setF_at] at e; exact h1 b e
    · rw [setF_ne c] at e; exact h.une k hk b e
  · by_cases c : k = r
    · subst c; rw [setF_at] at hp; exact h2 p hp b e
    · rw [setF_ne c] at hp; exact h.dne k hk p hp b e
theorem MK.load (h : MK w W A F V L u Q) {r : Nat} (hr : r < 4) : (Instr.loadAt 82 (.pointer (some ⟨A + 1, r, none⟩))).run Try.prog W = .ok (.agg #[u r]) W :=
  run_loadAt_mid W (A + 1) r 82 [u r] _ (fun j v hu => by
    rcases j with _ | j
    · cases hu; exact h.kn.cell r (kc_at u r hr)
    · cases hu) Try.underlying82 rfl (by show _ = some 1; kernel_rfl)
end
/-- What has come about. -/
structure HK (E : List EvI) (F : Nat → Nat → Nat) (L : Nat → List SibI) (k : Nat) (U : Nat → List EvI) : Prop where
  hist : Hist E F L
  hc : HistC E F k
  ku : ∀ i, i < 4 → KnOf E (F i) (U i)
theorem HK.few {E : List EvI} {F : Nat → Nat → Nat} {L : Nat → List SibI} {k : Nat} {U : Nat → List EvI} (h : HK E F L k U) (hk : k ≤ 40) {i : Nat} (hi : i < 4) : (U i).length ≤ 328 := by
  have h1 := (h.ku i hi).few (h.hc.most i hi)
  omega
theorem HK.own {E : List EvI} {F : Nat → Nat → Nat} {L : Nat → List SibI} {k : Nat} {U : Nat → List EvI} (h : HK E F L k U) {i : Nat} (hi : i < 4) : ∀ e ∈ U i, e.x.r < 8 := fun e he => by
  have := (h.hist.own e (((h.ku i hi).mem e).1 he).1).1
  omega
theorem HK.start : HK [] (fun _ _ => 0) (fun _ => []) 0 (fun _ => []) := ⟨hist0, histC0 _, fun _ _ => knOf0 _⟩
theorem HK.reg {E : List EvI} {F : Nat → Nat → Nat} {L : Nat → List SibI} {k : Nat} {U : Nat → List EvI} (h : HK E F L k U) {i : Nat} (hi : i < 4) : (eq8 (F i) (ctxK (fun _ => 0) (U i)) && decide (L i = sibK (U i) [] (U i))) = true := by
  obtain ⟨h1, h2⟩ := reg_known h.hist h.hc hi (h.ku i hi)
  rw [h1, h2]
  simp
/-- The events behind an act, where they lie. -/
def nextQ (Q : Nat → List (EvI × Value)) (x : SActI) (p q : Nat) (Dv : List DotI) (v : Value) : Nat → List (EvI × Value) :=
  if x.k % 5 < 3 then setF Q (x.r % 4) (Q (x.r % 4) ++ [(evOf x p q Dv, v)]) else setF Q (x.r % 4) (bothP (Q (x.r % 4)) (Q (x.m % 4)))
theorem nextQ_fst (Q : Nat → List (EvI × Value)) (x : SActI) (p q : Nat) (Dv : List DotI) (v : Value) : (fun i => (nextQ Q x p q Dv v i).map Prod.fst) = nextU (fun i => (Q i).map Prod.fst) x p q Dv := by
  funext i
  unfold nextQ nextU
  by_cases c : x.k % 5 < 3
  · rw [if_pos c, if_pos c]
    by_cases e : i = x.r % 4
    · subst e; rw [setF_at, setF_at, List.map_append]; rfl
    · rw [setF_ne e, setF_ne e]
  · rw [if_neg c, if_neg c]
    by_cases e : i = x.r % 4
    · subst e; rw [setF_at, setF_at, bothP_fst]
    · rw [setF_ne e, setF_ne e]
theorem HK.next {E : List EvI} {F : Nat → Nat → Nat} {L : Nat → List SibI} {k : Nat} {Q : Nat → List (EvI × Value)} (h : HK E F L k (fun i => (Q i).map Prod.fst)) {x : SActI} {f1 : Nat → Nat} {l1 : List SibI} {p q : Nat} {Dv : List DotI} (ho : OneIs F L x f1 l1 p q Dv 0) (v : Value) :
    ∃ E', HK E' (setF F (x.r % 4) f1) (setF L (x.r % 4) l1) (k + 1) (fun i => (nextQ Q x p q Dv v i).map Prod.fst) := by
  obtain ⟨E', h1, h2, h3⟩ := h.hist.oneK h.hc h.ku ho
  exact ⟨E', h1, h2, fun i hi => by rw [show (nextQ Q x p q Dv v i).map Prod.fst = nextU (fun i => (Q i).map Prod.fst) x p q Dv i from congrFun (nextQ_fst Q x p q Dv v) i]; exact h3 i hi⟩
theorem HK.up {E : List EvI} {F : Nat → Nat → Nat} {L : Nat → List SibI} {k : Nat} {U : Nat → List EvI} (h : HK E F L k U) : HK E F L (k + 1) U := ⟨h.hist, h.hc.up, h.ku⟩
end Go.Proofs.Ytojbgckabifnjaa

