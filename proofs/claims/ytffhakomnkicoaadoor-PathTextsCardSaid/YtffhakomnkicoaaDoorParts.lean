/- What path.parts and slices.Values give to a range over them. No condition. -/
import Derived.Test.YtffhakomnkicoaaDoorName
import Derived.Test.YtffhakomnkicoaaDoorStrs
import Derived.Test.YtffhakomnkicoaaDoorRound
import Derived.RangeFuncNested
import Derived.RangeFuncBound
import Derived.RangeFuncCalls
import Derived.RangeFuncLeaves
import Derived.Shelf.Abstract
import Derived.Shelf.RegionOpen
import Derived.OwnWalkIn
import Derived.TacticsInMore
import Derived.LoopNIn
import Derived.LoopIn
namespace Go.Proofs.YtffhakomnkicoaaDoor
open Go.RowKit Go.Shelf
attribute [local go_sem] Oper.semAt_some

theorem fr_grown {w w' : World} (f : Fr w w') : w.grownBy w' none := ⟨f.os, f.tape, f.output, f.size, fun k hk _ => f.block k hk (fun h => h)⟩
theorem fr_of0 {w w' : World} (h : Below w.heap.size w w') : Fr w w' := ⟨h.os, h.tape, h.output, h.size, fun k hk _ => h.block k hk⟩
abbrev sEnc (x : List UInt8) : Array Value := #[.string (bs x)]
/-- The parts of what follows the first slash. -/
def pcs (r : List UInt8) : List (List UInt8) := if r = [] then [] else cut 47 r
def stepM : Value → Value → Nat
  | .string s, .bool true => s.size + 1
  | _, _ => 0

set_option maxHeartbeats 400000 in
theorem parts_any (r : List UInt8) (w : World) :
    Calls Tryd.prog 59 #[.string (bs r)] w fun e w' => e = .returned (.func (.func 74) #[] #[.pointer (some ⟨w.heap.size, 0, none⟩)]) ∧ w.alloc (.cells #[.string (bs r)] 9) = w' := by
  go_enter Tryd.func59, Tryd.ntmps59
  go_wp2
  go_ret
  exact ⟨rfl, rfl⟩
set_option maxHeartbeats 400000 in
theorem values_any (a : Option Addr) (n c : Nat) (w : World) :
    Calls Tryd.prog 45 #[.slice a n c] w fun e w' => e = .returned (.func (.func 65) #[] #[.pointer (some ⟨w.heap.size, 0, none⟩)]) ∧ w.alloc (.cells #[.slice a n c] 23) = w' := by
  go_enter Tryd.func45, Tryd.ntmps45
  go_wp2
  go_ret
  exact ⟨rfl, rfl⟩
/-- What a round leaves as it lay. -/
def kept (n : Nat) (W W' : World) : Prop := ∀ k, k < n → W'.heap[k]? = W.heap[k]?
theorem kept.refl (n : Nat) (W : World) : kept n W W := fun _ _ => rfl
theorem kept.trans {n : Nat} {A B C : World} (h : kept n A B) (h2 : kept n B C) : kept n A C := fun k hk => (h2 k hk).trans (h k hk)
theorem kept.put {n : Nat} {w : World} (hn : n ≤ w.heap.size) (W : World) (l : Nat) (o o' : Obj) (hl : w.heap.size ≤ l) (_ : W.heap[l]? = some o) (_ : o.isCells = false) (_ : o.isWalk = false) : kept n W (W.putObj l o') := fun _ hk => World.putObj_heap_other (by omega)
/-- Some first ones, not none. -/
def someOf (l pre : List (List UInt8)) : Prop := pre <+: l ∧ pre ≠ []

set_option maxRecDepth 100000 in
set_option maxHeartbeats 2000000 in
theorem values_stops (Bn n0 : Nat) (v : Value) (l : List (List UInt8)) (w : World) (hB : Blk w Bn 23 #[v]) (hv : Strs w v l) (hn : ∀ g, blkOf v = some g → 0 < l.length → g < n0) :
    SeqStopsK Fence.wide 8 Tryd.prog 65 #[.pointer (some ⟨Bn, 0, none⟩)] sEnc (kept n0) (fun xs => xs = l) (someOf l) l.length w := fun l0 J Jx W hW hJ hJx hY h0 => by
  have hBW : Blk W Bn 23 #[v] := (hW.block Bn hB.lt).trans hB
  have hvW : Strs W v l := hv.keepF (fr_of0 hW)
  obtain ⟨a, cap, rfl, hc1, hc2⟩ := hvW.slice
  have c0 := hBW.cell 0 rfl
  unfold maxLen at hc2
  have hws := hW.size
  refine callsIn_of_wp Tryd.func65 rfl trivial ?_ rfl
  simp only [Tryd.ntmps65, List.size_toArray, List.length_cons, List.length_nil, Nat.reduceAdd, Nat.reduceSub, Array.replicate_succ, Array.replicate_zero, List.push_toArray, List.append_toArray, List.nil_append, List.cons_append]
  gi_wp2
  gi_loopw [7] (fun i wr => ∃ k : Nat, i = .int .i64 k ∧ k ≤ l.length ∧ J (l.take k) wr ∧ kept n0 W wr) (fun i _ => l.length - (intOf i).toNat)
  case atStart => exact ⟨0, rfl, by omega, by simpa using h0, fun _ _ => rfl⟩
  case round =>
    obtain ⟨k, rfl, hk, hJs, hkp⟩ := hrel
    by_cases hlt : k < l.length
    · have hvr : Strs wr (.slice a l.length cap) l := by
        obtain ⟨h1, a', c', e, h2, h3, h4⟩ := hv
        refine ⟨h1, a', c', e, h2, h3, ?_⟩
        rcases h4 with h4 | ⟨g, off, ea, hg, hcl⟩
        · exact .inl h4
        · have hgn : g < n0 := hn g (by cases e; rw [ea]; rfl) (by omega)
          refine .inr ⟨g, off, ea, by have := (hkp g hgn); have h6 := hW.block g hg; have h7 := this.trans h6; rw [Array.getElem?_eq_getElem hg] at h7; exact (Array.getElem?_eq_some_iff.1 h7).1, fun j hj => ?_⟩
          exact (World.cell?_of_block (a := ⟨g, off + j, none⟩) ((hkp g hgn).trans (hW.block g hg))).trans (hcl j hj)
      obtain ⟨g, off, rfl, hb, cg⟩ := hvr.at k hlt
      have hpl : (l.take k).length = k := by simp; omega
      obtain ⟨fn, tmps, assign, body, hy, hR⟩ := hY (l.take k) l[k] _ hJs (by omega)
      dsimp only [sEnc] at hy
      have hki : (k : Int) < l.length := by omega
      gi_wp2
      refine hR.mono ?_
      have htk : l.take k ++ [l[k]] = l.take (k + 1) := (List.take_succ_eq_append_getElem hlt).symm
      rintro e W3 (⟨rfl, hJ3, hk3⟩ | ⟨rfl, hJx3⟩)
      · gi_wp2
        go_roundw
        case rel => exact ⟨k + 1, by go_num, hlt, by rw [← htk]; exact hJ3, fun q hq => (hk3 q hq).trans (hkp q hq)⟩
        case measure => simp [intOf]; omega
      · gi_wp2
        refine bodyPost_ret (results_none rfl _ _ _) rfl ?_
        exact ⟨⟨_, rfl⟩, .inr ⟨l.take k ++ [l[k]], ⟨by rw [htk]; exact List.take_prefix _ _, fun e => by rw [List.append_eq_nil_iff] at e; cases e.2⟩, hJx3⟩⟩
    · obtain rfl : k = l.length := by omega
      rw [List.take_length] at hJs
      gi_wp2
      go_end0
      exact ⟨⟨_, rfl⟩, .inl ⟨l, rfl, hJs⟩⟩

set_option maxRecDepth 100000 in
set_option maxHeartbeats 2000000 in
theorem parts_stops (Bn : Nat) (r : List UInt8) (w : World) (hB : Blk w Bn 9 #[.string (bs r)]) (hl : r.length ≤ 1000) :
    SeqStopsK Fence.wide 8 Tryd.prog 74 #[.pointer (some ⟨Bn, 0, none⟩)] sEnc (fun _ _ => True) (fun xs => xs = pcs r) (someOf (pcs r)) (pcs r).length w := fun l0 J Jx W hW hJ hJx hY h0 => by
  have hBW : Blk W Bn 9 #[.string (bs r)] := (hW.block Bn hB.lt).trans hB
  have c0 := hBW.cell 0 rfl
  refine callsIn_of_wp Tryd.func74 rfl trivial ?_ rfl
  simp only [Tryd.ntmps74, List.size_toArray, List.length_cons, List.length_nil, Nat.reduceAdd, Nat.reduceSub, Array.replicate_succ, Array.replicate_zero, List.push_toArray, List.append_toArray, List.nil_append, List.cons_append]
  refine wpIn_wide.2 ?_
  go_wp2
  go_quiet (fail)
  go_wp2_with fail
  obtain ⟨m, hm⟩ : ∃ m : Bool, (!(bs r).toList.isEmpty) = m := ⟨_, rfl⟩
  rw [hm]
  rw [bs_toList] at hm
  have hst : (m = true ∧ pcs r = [] ++ cut 47 r) ∨ (m = false ∧ pcs r = []) := by
    cases r with
    | nil => exact .inr ⟨hm.symm, rfl⟩
    | cons x t => exact .inl ⟨hm.symm, by unfold pcs; rw [if_neg (by simp)]; rfl⟩
  have h1 : J [] (W.drewN nq) := hJ [] W _ none h0 (fr_grown ((Frm.refl _ W).drewN nq)) (fun _ e => by cases e)
  generalize W.drewN nq = W1 at *
  clear hm c0 h0
  refine (wpIn_wide (n := 8)).1 ?_
  gi_loopw [3, 4] (fun s b wr => ∃ (pre : List (List UInt8)) (r' : List UInt8) (m : Bool), s = .string (bs r') ∧ b = .bool m ∧ J pre wr ∧ r'.length ≤ 1000 ∧ ((m = true ∧ pcs r = pre ++ cut 47 r') ∨ (m = false ∧ pcs r = pre))) (fun s b _ => stepM s b)
  case atStart => exact ⟨[], r, m, rfl, rfl, h1, hl, hst⟩
  case round =>
    obtain ⟨pre, r', m, rfl, rfl, hJs, hl2, ⟨rfl, hp⟩ | ⟨rfl, hp⟩⟩ := hrel
    · have Hp := Lib.hid hp
      clear hp h1 hst
      rcases first_of 47 r' with hno | ⟨a, b, rfl, hno⟩
      · have hcut := cut_free hno
        gi_wp2_with fail
        refine ⟨trivial, (callsIn_wide.2 (cut_no 47 r' _ hno)).mono ?_⟩
        rintro e w1 ⟨rfl, rfl⟩
        have hlen : pre.length < (pcs r).length := by rw [Hp.out, hcut]; simp
        obtain ⟨fn, tmps, assign, body, hy, hR⟩ := hY pre r' _ hJs hlen
        dsimp only [sEnc] at hy
        have Hc := Lib.hid hcut
        clear hcut
        gi_wp2
        refine hR.mono ?_
        rintro e W3 (⟨rfl, hJ3, hk3⟩ | ⟨rfl, hJx3⟩)
        · gi_wp2
          go_roundw
          case rel => exact ⟨pre ++ [r'], [], false, rfl, rfl, hJ3, by simp, .inr ⟨rfl, by rw [Hp.out, Hc.out]⟩⟩
          case measure => simp [stepM]
        · gi_wp2
          refine bodyPost_ret (results_none rfl _ _ _) rfl ?_
          exact ⟨⟨_, rfl⟩, .inr ⟨pre ++ [r'], ⟨by rw [Hp.out, Hc.out]; exact List.prefix_refl _, fun e => by rw [List.append_eq_nil_iff] at e; cases e.2⟩, hJx3⟩⟩
      · have hcut := cut_app (c := 47) b hno
        have hyes := fun w => cut_yes 47 a b w hno (by omega)
        have hbl : b.length ≤ 1000 := by simp at hl2; omega
        have hms : (bs b).size < (bs (a ++ 47 :: b)).size := by rw [bs_size, bs_size]; simp; omega
        generalize a ++ 47 :: b = r' at *
        have Hy := Lib.hid hyes
        have Hms := Lib.hid hms
        clear hyes hms
        gi_wp2_with fail
        refine ⟨trivial, (callsIn_wide.2 (Hy.out _)).mono ?_⟩
        rintro e w1 ⟨rfl, f1⟩
        have hJ1 : J pre w1 := hJ pre _ _ none hJs (fr_grown f1) (fun _ e => by cases e)
        have hlen : pre.length < (pcs r).length := by rw [Hp.out, hcut]; simp
        obtain ⟨fn, tmps, assign, body, hy, hR⟩ := hY pre a _ hJ1 hlen
        dsimp only [sEnc] at hy
        have Hc := Lib.hid hcut
        clear hcut
        gi_wp2
        refine hR.mono ?_
        rintro e W3 (⟨rfl, hJ3, hk3⟩ | ⟨rfl, hJx3⟩)
        · gi_wp2
          go_roundw
          case rel => exact ⟨pre ++ [a], b, true, rfl, rfl, hJ3, hbl, .inl ⟨rfl, by rw [Hp.out, Hc.out, List.append_assoc]; rfl⟩⟩
          case measure => have := Hms.out; simp [stepM]; omega
        · gi_wp2
          refine bodyPost_ret (results_none rfl _ _ _) rfl ?_
          exact ⟨⟨_, rfl⟩, .inr ⟨pre ++ [a], ⟨by rw [Hp.out, Hc.out]; exact ⟨cut 47 b, by simp⟩, fun e => by rw [List.append_eq_nil_iff] at e; cases e.2⟩, hJx3⟩⟩
    · gi_wp2
      go_end0
      exact ⟨⟨_, rfl⟩, .inl ⟨pre, hp.symm, hJs⟩⟩
end Go.Proofs.YtffhakomnkicoaaDoor
