/- Where the first group is that something holds of; siblings from the last one to the first one. No condition. -/
import Derived.Test.YtiokabhidjafeaaDoorRkM
import Derived.Test.YtiokabhidjafeaaDoorRkA
namespace Go.Proofs.YtiokabhidjafeaaDoor
open Go.RowKit Go.Shelf
attribute [local go_sem] Oper.semAt_some

/-- A group's cells. -/
def grc (x : GrpI × Value) : List Value := [.string (bs x.1.s), x.2]
theorem grc_len (x : GrpI × Value) : (grc x).length = 2 := rfl
set_option maxRecDepth 100000 in
set_option maxHeartbeats 2000000 in
theorem idx_any (P : List (GrpI × Value)) (u : Value) (gf : FuncId) (caps : Array Value) (q : GrpI → Bool) (w : World) (hP : Sl w 2 u P.length (flat grc P)) (hen : ∀ args W, (callFunc gf args).run Tryd.prog W = .ok (.enter gf args) W)
    (hg : ∀ x ∈ P, ∀ W, Frm (fun _ => False) w W → Calls Tryd.prog gf (#[.agg #[.string (bs x.1.s), x.2]] ++ caps) W fun e w' => e = .returned (.bool (q x.1)) ∧ Frm (fun _ => False) W w') :
    Calls Tryd.prog 72 #[u, .func (.func gf) #[] caps] w fun e w' => Frm (fun _ => False) w w' ∧
      ((∃ k, ∃ h : k < P.length, e = .returned (.int .i64 (k : Int)) ∧ q P[k].1 = true ∧ ∀ j (hj : j < P.length), j < k → q P[j].1 = false) ∨ (e = .returned (.int .i64 (-1)) ∧ ∀ j (hj : j < P.length), q P[j].1 = false)) := by
  obtain ⟨a, cap, rfl, h1, h2⟩ := Sl.slice hP
  unfold maxLen at h2
  have HG := Lib.hid hg
  have HP := Lib.hid hP
  clear hg hP
  go_enter Tryd.func72, Tryd.ntmps72
  go_wp2_with fail
  go_loopw [8] (fun i wr => ∃ k : Nat, k ≤ P.length ∧ i = .int .i64 k ∧ (∀ j (hj : j < P.length), j < k → q P[j].1 = false) ∧ Frm (fun _ => False) w wr) (fun i _ => P.length - (intOf i).toNat)
  case atStart => exact ⟨0, Nat.zero_le _, rfl, fun j _ h => absurd h (Nat.not_lt_zero _), Frm.refl _ _⟩
  case round =>
    obtain ⟨k, hk, rfl, hbef, f1⟩ := hrel
    have HBF := Lib.hid hbef
    clear hbef
    by_cases hlt : k < P.length
    · have hki : (k : Int) < (P.length : Int) := by omega
      have hk0 : (0 : Int) ≤ (k : Int) := by omega
      obtain ⟨g, off, rfl, _, hc⟩ := Sl.elem grc grc_len (HP.out.keepF f1) k hlt (by omega)
      have c0 : wr.cell? ⟨g, off + k * 2, none⟩ = some (.string (bs P[k].1.s)) := hc 0 (by omega)
      have c1 : wr.cell? ⟨g, off + k * 2 + 1, none⟩ = some P[k].2 := by rw [Nat.add_assoc]; exact hc 1 (by omega)
      have HC := Lib.hid (HG.out P[k] (List.getElem_mem hlt) wr f1)
      clear hc
      go_wp2_with fail
      refine HC.out.mono ?_
      rintro e w1 ⟨rfl, g1⟩
      have HF := Lib.hid (f1.trans g1)
      clear f1 g1 c0 c1 HC
      cases hq : q P[k].1 with
      | true =>
        have HQ := Lib.hid hq
        clear hq
        go_wp2_with fail
        go_ret
        exact ⟨HF.out, .inl ⟨k, hlt, rfl, HQ.out, HBF.out⟩⟩
      | false =>
        have HQ := Lib.hid hq
        clear hq
        go_wp2_with fail
        go_roundw
        case rel => exact ⟨k + 1, by omega, by go_num, fun j hj hjk => by
          rcases Nat.lt_or_ge j k with h | h
          · exact HBF.out j hj h
          · obtain rfl : j = k := by omega
            exact HQ.out, HF.out⟩
        case measure => simp [intOf]; omega
    · obtain rfl : k = P.length := by omega
      go_wp2_with fail
      go_ret
      exact ⟨f1, .inr ⟨rfl, fun j hj => HBF.out j hj hj⟩⟩

/-- Siblings with their places, the last one first. -/
def bk (l : List SibI) : List (SibI × Nat) := l.zipIdx.reverse
theorem bk_len (l : List SibI) : (bk l).length = l.length := by simp [bk]
theorem bk_at (l : List SibI) (k : Nat) (h : k < l.length) : (bk l)[k]'(by rw [bk_len]; exact h) = (l[l.length - 1 - k], l.length - 1 - k) := by
  simp [bk, List.getElem_reverse]
theorem bk_fst (l : List SibI) : (bk l).map Prod.fst = l.reverse := by
  simp [bk, List.map_reverse]
/-- A sibling whose value is not too long, and its place. -/
abbrev BS := { y : SibI × Nat // y.1.s.length ≤ 200 }
theorem bk_mem {l : List SibI} {y : SibI × Nat} (h : y ∈ bk l) : y.1 ∈ l := by
  have : y.1 ∈ (bk l).map Prod.fst := List.mem_map.2 ⟨y, h, rfl⟩
  rw [bk_fst] at this
  exact List.mem_reverse.1 this
def bkS (l : List SibI) (h : ∀ x ∈ l, x.s.length ≤ 200) : List BS := (bk l).attachWith (fun y => y.1.s.length ≤ 200) (fun y hy => h y.1 (bk_mem hy))
theorem bkS_len (l : List SibI) (h : ∀ x ∈ l, x.s.length ≤ 200) : (bkS l h).length = l.length := by simp [bkS, bk_len]
theorem bkS_fst (l : List SibI) (h : ∀ x ∈ l, x.s.length ≤ 200) : (bkS l h).map (fun y => y.1.1) = l.reverse := by
  rw [← bk_fst]
  have : (bkS l h).map Subtype.val = bk l := by
    unfold bkS
    exact List.attachWith_map_subtype_val _
  rw [← this, List.map_map]
  rfl
theorem bkS_at (l : List SibI) (h : ∀ x ∈ l, x.s.length ≤ 200) (k : Nat) (hk : k < l.length) : (bkS l h)[k]'(by rw [bkS_len]; exact hk) = ⟨(l[l.length - 1 - k], l.length - 1 - k), h _ (List.getElem_mem _)⟩ := by
  apply Subtype.ext
  simp only [bkS, List.getElem_attachWith]
  exact bk_at l k hk
abbrev bEnc (x : BS) : Array Value := #[.int .i64 (x.1.2 : Int), .agg #[.int .u8 x.1.1.r, .int .u32 x.1.1.n, .string (bs x.1.1.s)]]
/-- Backward's answer. -/
def BackTo (v : Value) (w : World) (e : Ending) (w' : World) : Prop :=
  e = .returned (.func (.func 97) #[] #[.pointer (some ⟨w.heap.size, 0, none⟩)]) ∧ w' = w.alloc (.cells #[v] 25)
theorem back_any (v : Value) (l : List SibI) (w : World) (h : SL w v l) : Calls Tryd.prog 71 #[v] w (BackTo v w) := by
  obtain ⟨a, cap, rfl, _, _⟩ := h.slice
  have hmf : ∀ (fn : Fn) (first cap : Array Value) (w : World), (Instr.makeFunc fn first cap).run Tryd.prog w = .ok (.func fn first cap) w := fun _ _ _ _ => rfl
  go_enter Tryd.func71, Tryd.ntmps71
  go_wp2_with fail
  go_ret
  exact ⟨rfl, rfl⟩
set_option maxRecDepth 100000 in
set_option maxHeartbeats 2000000 in
theorem back_stops (B : Nat) (v : Value) (l : List SibI) (K : Nat → Prop) (w : World) (hB : Blk w B 25 #[v]) (hs : SL w v l) (hKv : ∀ g, blkOf v = some g → K g) (hKB : K B) (hb : l.length ≤ 1000000) (h2 : ∀ x ∈ l, x.s.length ≤ 200) :
    SeqStopsK Fence.wide 8 Tryd.prog 97 #[.pointer (some ⟨B, 0, none⟩)] bEnc (keptS K) (fun xs => xs = bkS l h2) (fun pre => pre <+: bkS l h2 ∧ pre ≠ []) l.length w := fun l0 J Jx W hW hJ hJx hY h0 => by
  have hBW : Blk W B 25 #[v] := (hW.block B hB.lt).trans hB
  have hsW : SL W v l := hs.keepF (frm_of_below hW)
  obtain ⟨a, cap, rfl, hc1, hc2⟩ := hsW.slice
  unfold maxLen at hc2
  have c0 := hBW.cell 0 rfl
  refine callsIn_of_wp Tryd.func97 rfl trivial ?_ rfl
  simp only [Tryd.ntmps97, List.size_toArray, List.length_cons, List.length_nil, Nat.reduceAdd, Nat.reduceSub, Array.replicate_succ, Array.replicate_zero, List.push_toArray, List.append_toArray, List.nil_append, List.cons_append]
  gi_wp2
  clear c0
  gi_loopw [3] (fun i wr => ∃ k : Nat, i = .int .i64 ((l.length : Int) - 1 - k) ∧ k ≤ l.length ∧ J ((bkS l h2).take k) wr ∧ keptS K W wr) (fun i _ => ((intOf i) + 1).toNat)
  case atStart => exact ⟨0, by simp, by omega, by rw [List.take_zero]; exact h0, fun _ _ => rfl⟩
  case round =>
    obtain ⟨k, rfl, hk, hJs, hkp⟩ := hrel
    have hBr : Blk wr B 25 #[.slice a l.length cap] := (hkp B hKB).trans hBW
    have c0 := hBr.cell 0 rfl
    by_cases hlt : k < l.length
    · obtain ⟨i, hi⟩ : ∃ i, l.length - 1 - k = i := ⟨_, rfl⟩
      have hii : ((l.length : Int) - 1 - k) = (i : Int) := by omega
      have hil : i < l.length := by omega
      have hi0 : (0 : Int) ≤ (i : Int) := by omega
      have hi1 : (i : Int) < (l.length : Int) := by omega
      have hsr := hsW.keepK hkp hKv
      obtain ⟨g, off, rfl, hg, hcell⟩ := Sl.elem sibc sibc_len hsr i hil (by omega)
      have c1 : wr.cell? ⟨g, off + i * 3, none⟩ = some (.int .u8 l[i].r) := hcell 0 (by omega)
      have c2 : wr.cell? ⟨g, off + i * 3 + 1, none⟩ = some (.int .u32 l[i].n) := by rw [Nat.add_assoc]; exact hcell 1 (by omega)
      have c3 : wr.cell? ⟨g, off + i * 3 + 2, none⟩ = some (.string (bs l[i].s)) := by rw [Nat.add_assoc]; exact hcell 2 (by omega)
      clear hcell hsr
      have hkb : k < (bkS l h2).length := by rw [bkS_len]; exact hlt
      have hat := bkS_at l h2 k hlt
      simp only [hi] at hat
      obtain ⟨fn, tmps, assign, body, hy, hR⟩ := hY ((bkS l h2).take k) ⟨(l[i], i), h2 _ (List.getElem_mem _)⟩ _ hJs (by rw [List.length_take, bkS_len]; omega)
      dsimp only [bEnc] at hy
      have HT := Lib.hid (show (bkS l h2).take k ++ [⟨(l[i], i), h2 _ (List.getElem_mem _)⟩] = (bkS l h2).take (k + 1) from by rw [← hat]; exact (List.take_succ_eq_append_getElem hkb).symm)
      have HKP := Lib.hid hkp
      have HII := Lib.hid hii
      rw [hii]
      clear hY hat hkb hkp hJs hi hii hBr
      gi_wp2
      refine hR.mono ?_
      rintro e W3 (⟨rfl, hJ3, hk3⟩ | ⟨rfl, hJx3⟩)
      · gi_wp2
        go_roundw
        case rel =>
          refine ⟨k + 1, ?_, hlt, by rw [← HT.out]; exact hJ3, fun q hq => (hk3 q hq).trans (HKP.out q hq)⟩
          have := HII.out
          congr 1
          omega
        case measure => simp [intOf]
      · gi_wp2
        refine bodyPost_ret (results_none rfl _ _ _) rfl ?_
        exact ⟨⟨_, rfl⟩, .inr ⟨(bkS l h2).take k ++ [⟨(l[i], i), h2 _ (List.getElem_mem _)⟩], ⟨by rw [HT.out]; exact List.take_prefix _ _, List.append_ne_nil_of_right_ne_nil _ (by simp)⟩, hJx3⟩⟩
    · obtain rfl : k = l.length := by omega
      have hneg : ((l.length : Int) - 1 - l.length) = -1 := by omega
      rw [hneg]
      rw [List.take_of_length_le (by rw [bkS_len]; omega)] at hJs
      gi_wp2
      go_end0
      exact ⟨⟨_, rfl⟩, .inl ⟨bkS l h2, rfl, hJs⟩⟩
end Go.Proofs.YtiokabhidjafeaaDoor

