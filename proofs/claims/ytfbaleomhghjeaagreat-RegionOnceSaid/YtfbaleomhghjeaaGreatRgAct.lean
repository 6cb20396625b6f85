/- How long the groups are that a region tells; strings.Join over them. No condition. -/
import Derived.Test.YtfbaleomhghjeaaGreatRgY
import Derived.Test.YtfbaleomhghjeaaGreatShelf
import Derived.Test.YtfbaleomhghjeaaGreatDvR
section
namespace Go.Proofs.YtfbaleomhghjeaaGreat
open Go.RowKit Go.Shelf

/-- An act over a line that no act cuts. -/
theorem Uc.act {L : LV} (h : Uc L) (D' : DV) : Uc (L.act D') ∧ (L.act D').acts = L.acts + 1 ∧ (L.act D').cs = L.cs ∧ (L.act D').P = L.P ∧ (L.act D').D = D' := by
  rw [LV.act_live D' h.1 (by have := h.2; omega)]
  exact ⟨⟨h.1, h.2⟩, rfl, rfl, rfl, rfl⟩
end Go.Proofs.YtfbaleomhghjeaaGreat
end
section
namespace Go.Proofs.YtfbaleomhghjeaaGreat
open Go.RowKit Go.Shelf

/-- What an act leaves. -/
structure StepR (R : RV) (L : LV) (R' : RV) (L' : LV) (e : Nat) : Prop where
  st : ∃ gs fc gen, StR R' L' gs fc gen
  uc : Uc L'
  at_ : R'.at_ = 64
  n : R'.n = 64
  acts : L'.acts ≤ L.acts + 65
  cs : L'.cs = L.cs
  dn : L'.D.n = L.D.n
  out : ∀ k, k < 64 ∨ 127 < k → L'.D.read k = L.D.read k
  log : ∀ k, 64 < k → k < 128 → L.D.read k = zb ∨ L'.D.read k = L.D.read k
  err : e ≠ 0 → (e = 7 ∨ e = 2) ∧ R' = R ∧ L' = L
section
variable {R : RV} {L : LV} {gs : List (List UInt8)} {fc gen : Nat}
theorem step_ap (h : StR R L gs fc gen) (hu : Uc L) (h1 : R.at_ = 64) (h2 : R.n = 64) (s : List UInt8) : ∃ R' L' e, apR R L s = (R', L', e) ∧ StepR R L R' L' e ∧ (e = 0 ∨ e = 7) := by
  by_cases hf : needs s.length ≤ R.left
  · obtain ⟨L', ha, hs, hu', hac, hcs, _, hD⟩ := apR_uc h hu s hf
    have hul := h.used
    have hlen := h.inv.len
    rw [blksAll_len, h2] at hlen
    have hinn := h.inv.inn
    unfold RV.left at hf
    have hw := writes_X (blks (R.used + 1) s) (R.at_ + 1 + R.used) L.D h.inv.ok (by rw [blks_len]; omega) (fun b hb => by
      unfold blks at hb
      obtain ⟨k, _, rfl⟩ := List.mem_map.1 hb
      exact Nat.le_of_eq (blk_len _ _ _))
    rw [← hD, blks_len] at hw
    have hrd : ∀ k, ¬ (R.at_ + 1 + R.used ≤ k ∧ k < R.at_ + 1 + R.used + needs s.length) → L'.D.read k = L.D.read k := fun k hk => by
      unfold DV.read
      rw [hw.2.2.2 k, if_neg hk, hw.2.2.1]
    refine ⟨_, L', 0, ha, ⟨⟨_, _, _, hs⟩, hu', h1, h2, by omega, hcs, hw.2.1, fun k hk => hrd k (by omega), fun k hk1 hk2 => ?_, fun h => absurd rfl h⟩, .inl rfl⟩
    by_cases hin : R.at_ + 1 + R.used ≤ k ∧ k < R.at_ + 1 + R.used + needs s.length
    · left
      have := h.inv.zread (j := k - (R.at_ + 1)) (by rw [blksAll_len]; omega) (by omega)
      rw [← this]
      congr 1
      omega
    · exact .inr (hrd k hin)
  · refine ⟨R, L, 7, ?_, ⟨⟨_, _, _, h⟩, hu, h1, h2, Nat.le_add_right _ _, rfl, rfl, fun _ _ => rfl, fun _ _ _ => .inr rfl, fun _ => ⟨.inl rfl, rfl, rfl⟩⟩, .inr rfl⟩
    unfold apR
    rw [h.bad, if_neg Bool.false_ne_true, if_pos (by omega)]
theorem step_fl (h : StR R L gs fc gen) (hu : Uc L) (h1 : R.at_ = 64) (h2 : R.n = 64) : ∃ R' L', flR R L = (R', L', 0) ∧ StepR R L R' L' 0 := by
  obtain ⟨L', ha, hs, hu', hac, hcs, _, hD⟩ := flR_uc h hu
  exact ⟨_, L', ha, ⟨⟨_, _, _, hs⟩, hu', h1, h2, by omega, hcs, by rw [hD]; rfl, fun k _ => by rw [hD]; rfl, fun k _ _ => .inr (by rw [hD]; rfl), fun h => absurd rfl h⟩⟩
theorem step_sl (h : StR R L gs fc gen) (hu : Uc L) (h1 : R.at_ = 64) (h2 : R.n = 64) (g : Nat) (hg : g < 4294967296) : ∃ R' L' e, slR R L g = (R', L', e) ∧ StepR R L R' L' e ∧ (e = 0 ∨ e = 2) := by
  by_cases h0 : g = 0
  · refine ⟨R, L, 2, ?_, ⟨⟨_, _, _, h⟩, hu, h1, h2, Nat.le_add_right _ _, rfl, rfl, fun _ _ => rfl, fun _ _ _ => .inr rfl, fun _ => ⟨.inr rfl, rfl, rfl⟩⟩, .inr rfl⟩
    unfold slR
    rw [if_pos h0]
  · obtain ⟨L', ha, hs, hu', hac, hcs, _, hD⟩ := slR_uc h hu h0 hg
    have hinn := h.inv.inn
    have hn := h.inv.len
    have hrd : ∀ k, k ≠ 64 → L'.D.read k = L.D.read k := fun k hk => by
      rw [hD, wrD_eq (by omega) (by rw [hdB_len]; exact Nat.le_refl _)]
      show (L.D.write R.at_ (hdB g)).read k = _
      unfold DV.read DV.write
      dsimp only
      rw [if_neg (by omega)]
    exact ⟨_, L', 0, ha, ⟨⟨_, _, _, hs⟩, hu', h1, h2, by omega, hcs, by rw [hD]; exact writeTo_n L.D _ _, fun k hk => hrd k (by omega), fun k hk _ => .inr (hrd k (by omega)), fun h => absurd rfl h⟩, .inl rfl⟩
end
theorem repeatL_on (c : UInt8) (n : Nat) : Lib.repeatL [c] n = List.replicate n c := by
  induction n with
  | zero => rfl
  | succ n ih => simp [Lib.repeatL, ih, List.replicate_succ]
/-- What was ahead. -/
def fullB : List UInt8 := padB [97, 104, 101, 97, 100]
theorem write_read (D : DV) (q : Nat) (s : List UInt8) (hq : q < D.n) (hs : s.length ≤ 64) (k : Nat) : (D.writeTo (q : Int) s).read k = if k = q then padB s else D.read k := by
  have h := wrD_eq (D := D) hq hs
  unfold wrD at h
  rw [h]
  unfold DV.read DV.write
  dsimp only
  split <;> rfl
theorem dev_neqn13 (w : World) (a : Addr) : (binOp .neq 28 (.pointer (some a)) (.pointer none)).run Tryz.prog w = .ok (.bool true) w := by
  have h : ∀ d : Nat, (Op.equalIn (d + 1) 28 (.pointer (some a)) (.pointer none)).run Tryz.prog w = .ok false w := fun d => by
    simp [Op.equalIn, run_underlying Tryz.underlying28]
  simp only [binOp]
  simp [Op.equal, Op.maxDepth, h 9999]
end Go.Proofs.YtfbaleomhghjeaaGreat
end
section
namespace Go.Proofs.YtfbaleomhghjeaaGreat
open Go.RowKit Go.Shelf

structure A5 where
  k : Nat
  s : List UInt8
  g : Nat
  q : Int
  n : Int
  hk : k < 256
  hs : s.length ≤ 9223372036854775807
  hg : g < 4294967296
  hq : Z64 q
  hn : Z64 n
def a5c (x : A5) : List Value := [.int .u8 (x.k : Nat), .string (bs x.s), .int .u32 (x.g : Nat), .int .i64 x.q, .int .i64 x.n]
theorem a5c_len (x : A5) : (a5c x).length = 5 := rfl
def A5L (w : World) (v : Value) (l : List A5) : Prop := Sl w 5 v l.length (flat a5c l)
section
variable {w w' : World} {v : Value} {l : List A5}
theorem A5L.keepF (h : A5L w v l) (hf : Frm (fun _ => False) w w') : A5L w' v l := Sl.keepF h hf
theorem A5L.slice (h : A5L w v l) : ∃ a cap, v = .slice a l.length cap ∧ l.length ≤ cap ∧ cap ≤ maxLen := Sl.slice h
theorem A5L.elem {a : Option Addr} {cap : Nat} (h : A5L w (.slice a l.length cap) l) (k : Nat) (hk : k < l.length) : ∃ g off, a = some ⟨g, off, none⟩ ∧ g < w.heap.size ∧ w.cell? ⟨g, off + k * 5, none⟩ = some (.int .u8 (l[k].k : Nat)) ∧ w.cell? ⟨g, off + k * 5 + 1, none⟩ = some (.string (bs l[k].s)) ∧
    w.cell? ⟨g, off + k * 5 + 2, none⟩ = some (.int .u32 (l[k].g : Nat)) ∧ w.cell? ⟨g, off + k * 5 + 3, none⟩ = some (.int .i64 l[k].q) ∧ w.cell? ⟨g, off + k * 5 + 4, none⟩ = some (.int .i64 l[k].n) := by
  obtain ⟨g, off, rfl, h0, hc⟩ := Sl.elem a5c a5c_len h k hk (by omega)
  exact ⟨g, off, rfl, h0, hc 0 (by omega), by rw [Nat.add_assoc]; exact hc 1 (by omega), by rw [Nat.add_assoc]; exact hc 2 (by omega), by rw [Nat.add_assoc]; exact hc 3 (by omega), by rw [Nat.add_assoc]; exact hc 4 (by omega)⟩
end
theorem ret_b13 {x y : Bool} (h : x = y) : Ending.returned (.bool x) = .returned (.bool y) := by rw [h]
/-- May these acts be gone through, with so many bytes left? -/
def fewB (m : Nat) : List A5 → Bool
  | [] => true
  | x :: r => decide (x.s.length ≤ 5000) && decide (x.s.length ≤ m) && fewB (m - x.s.length) r
def few5 (L : List A5) : Bool := fewB 20000 (L.take 60) && decide (L.length ≤ 50)
theorem fewB_all : ∀ (L : List A5) (m : Nat), fewB m L = true → ∀ x ∈ L, x.s.length ≤ 5000 := by
  intro L
  induction L with
  | nil => intro m _ x hx; cases hx
  | cons y r ih =>
    intro m h x hx
    unfold fewB at h
    simp only [Bool.and_eq_true, decide_eq_true_eq] at h
    rcases List.mem_cons.1 hx with rfl | hx
    · exact h.1.1
    · exact ih _ h.2 x hx
theorem few5_ok {L : List A5} (h : few5 L = true) : L.length ≤ 50 ∧ ∀ i (h : i < L.length), L[i].s.length ≤ 5000 := by
  unfold few5 at h
  simp only [Bool.and_eq_true, decide_eq_true_eq] at h
  refine ⟨h.2, fun i hi => fewB_all _ _ h.1 _ ?_⟩
  rw [List.take_of_length_le (by omega)]
  exact List.getElem_mem hi
set_option maxRecDepth 100000 in
set_option maxHeartbeats 2000000 in
theorem few13_any (v : Value) (L : List A5) (w : World) (h : A5L w v L) :
    Calls Tryz.prog 8 #[v] w fun e w' => e = .returned (.bool (few5 L)) ∧ w = w' := by
  obtain ⟨a, cap, rfl, h1, h2⟩ := h.slice
  have H3 := Lib.hid h
  clear h
  unfold maxLen at h2
  go_enter Tryz.func8, Tryz.ntmps8
  go_wp2
  go_loop [3, 4] (fun z i => ∃ k m : Nat, k ≤ L.length ∧ k ≤ 60 ∧ i = .int .i64 k ∧ z = .int .i64 m ∧ m ≤ 20000 ∧ fewB 20000 (L.take 60) = fewB m ((L.take 60).drop k)) (fun _ i => L.length - (intOf i).toNat)
  case atStart => exact ⟨0, 20000, Nat.zero_le _, by omega, rfl, rfl, Nat.le_refl _, rfl⟩
  case round =>
    obtain ⟨k, m, hk, hk60, rfl, rfl, hm, hall⟩ := hrel
    have Hall := Lib.hid hall
    clear hall
    by_cases hlt : k < L.length
    · obtain ⟨b, off, rfl, _, _, c1, _⟩ := H3.out.elem k hlt
      by_cases h60 : k < 60
      · have h60i : (k : Int) < 60 := by omega
        have hd : (L.take 60).drop k = L[k] :: (L.take 60).drop (k + 1) := by
          rw [← List.getElem_cons_drop (i := k) (by rw [List.length_take]; omega), List.getElem_take]
        have Hall := Lib.hid (show fewB 20000 (L.take 60) = (decide (L[k].s.length ≤ 5000) && decide (L[k].s.length ≤ m) && fewB (m - L[k].s.length) ((L.take 60).drop (k + 1))) by rw [Hall.out, hd]; rfl)
        clear hd
        obtain ⟨z, hz⟩ : ∃ z, L[k].s.length = z := ⟨_, rfl⟩
        have hze : ((bs L[k].s).size : Int) = (z : Int) := by rw [bs_size, hz]
        have hzl := L[k].hs
        rw [hz] at hzl Hall
        clear hz
        by_cases hs : z ≤ 5000
        · have hsz : ¬ (5000 : Int) < (z : Int) := by omega
          by_cases hs2 : z ≤ m
          · have hsz2 : ¬ (m : Int) < (z : Int) := by omega
            have hsub : IntKind.i64.wrap ((m : Int) - (z : Int)) = ((m - z : Nat) : Int) := by rw [IntWalk.i64_in _ (by omega)]; omega
            go_wp2
            go_round
            case rel => exact ⟨k + 1, m - z, by omega, by omega, by go_num, rfl, by omega, by rw [Hall.out, decide_eq_true hs, decide_eq_true hs2]; rfl⟩
            case measure => simp [intOf]; omega
          · have hsz2 : (m : Int) < (z : Int) := by omega
            go_wp2
            go_ret
            exact ⟨ret_b13 (by unfold few5; rw [Hall.out, decide_eq_false hs2, Bool.and_false]; rfl), rfl⟩
        · have hsz : (5000 : Int) < (z : Int) := by omega
          go_wp2
          go_ret
          exact ⟨ret_b13 (by unfold few5; rw [Hall.out, decide_eq_false hs]; rfl), rfl⟩
      · have h60i : ¬ (k : Int) < 60 := by omega
        go_wp2
        go_ret
        have hL1 : ¬ (L.length : Int) ≤ 50 := by omega
        have hL2 : ¬ L.length ≤ 50 := by omega
        exact ⟨ret_b13 (by unfold few5; rw [decide_eq_false hL1, decide_eq_false hL2, Bool.and_false]), rfl⟩
    · obtain rfl : k = L.length := by omega
      go_wp2
      go_ret
      have hf : fewB 20000 (L.take 60) = true := by
        rw [Hall.out, List.drop_eq_nil_of_le (by rw [List.length_take]; omega)]; rfl
      exact ⟨ret_b13 (by unfold few5; rw [hf, Bool.true_and, decide_eq_decide]; omega), rfl⟩
end Go.Proofs.YtfbaleomhghjeaaGreat
end
