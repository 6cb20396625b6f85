/- The function that a region's blocks are ranged over by. No condition. -/
import Derived.Test.YtdhnidmeeocajaaGreatCanonI
import Derived.RangeFuncNested
import Derived.RangeFuncBound
import Derived.RangeFuncCalls
import Derived.RangeFuncLeaves
import Derived.Shelf.Abstract
import Derived.Shelf.RegionOpen
import Derived.OwnWalkIn
import Derived.TacticsInMore
import Derived.LoopNIn
import Derived.LoopIn
namespace Go.Proofs.YtdhnidmeeocajaaGreat
open Go.RowKit Go.Shelf
attribute [local go_sem] Oper.semAt_some

/-- What a round must leave as it lay: boxes of strings and of ints. -/
def keepR : Obj → Bool
  | .cells _ t _ => t == 9 || t == 3
  | _ => false
def keptR (W W' : World) : Prop := ∀ (k : Nat) (o : Obj), W.heap[k]? = some o → keepR o = true → W'.heap[k]? = some o
theorem keptR.refl (W : World) : keptR W W := fun _ _ h _ => h
theorem keptR.trans {A B C : World} (h : keptR A B) (k : keptR B C) : keptR A C := fun q o hq ho => k q o (h q o hq ho) ho
theorem keptR.put {w : World} (W : World) (l : Nat) (o o' : Obj) (_ : w.heap.size ≤ l) (hl : W.heap[l]? = some o) (h1 : o.isCells = false) (_ : o.isWalk = false) : keptR W (W.putObj l o') := fun q x hq hx => by
  by_cases e : q = l
  · subst e
    rw [hl] at hq
    cases hq
    cases o <;> first | (simp [Obj.isCells] at h1; done) | (simp [keepR] at hx; done)
  · rw [World.putObj_heap_other e]; exact hq
theorem keptR.ofFrm {X : Nat → Prop} {W W' : World} (h : Frm X W W') (hX : ∀ k o, X k → W.heap[k]? = some o → keepR o = false) : keptR W W' := fun k o hk ho => by
  have hlt : k < W.heap.size := (Array.getElem?_eq_some_iff.1 hk).1
  rw [h.block k hlt (fun hx => by rw [hX k o hx hk] at ho; cases ho)]
  exact hk
theorem Blk.keptS {W W' : World} {b : Nat} {cs : Array Value} (h : Blk W b 9 cs) (hk : keptR W W') : Blk W' b 9 cs := hk b _ h (by simp [keepR])
theorem Blk.keptI {W W' : World} {b : Nat} {cs : Array Value} (h : Blk W b 3 cs) (hk : keptR W W') : Blk W' b 3 cs := hk b _ h (by simp [keepR])
theorem Frm.grownNoneR {w w' : World} (h : Frm (fun _ => False) w w') : w.grownBy w' none := ⟨h.os, h.tape, h.output, h.size, fun k hk _ => h.block k hk (fun h => h)⟩
/-- A number and a block, as what is yielded. -/
abbrev rEnc (x : Nat × List UInt8) : Array Value := #[.int .i64 (x.1 : Nat), .string (bs x.2)]
theorem ryield_eql (w : World) (f : Fn) (a c : Array Value) : (binOp .eql 142 (.func f a c) .nilFunc).run Tryz.prog w = .ok (.bool false) w := by
  have h : ∀ d : Nat, (Op.equalIn (d + 1) 142 (.func f a c) .nilFunc).run Tryz.prog w = .ok false w := fun d => by
    simp [Op.equalIn, run_underlying Tryz.underlying142]
  simp only [binOp]
  simp [Op.equal, Op.maxDepth, h 9999]
/-- What is yielded, with bounds: a caller's round is asked of any element. -/
abbrev BX (B : Nat) : Type := { x : Nat × List UInt8 // x.1 < B ∧ x.2.length = 64 }
/-- What is yielded for a group. -/
def blkL (i : Nat) (g : List UInt8) : List (Nat × List UInt8) := (List.range (needs g.length)).map fun k => (i + k, blk i g k)
theorem blkL_len (i : Nat) (g : List UInt8) : (blkL i g).length = needs g.length := by unfold blkL; rw [List.length_map, List.length_range]
theorem blkL_take (i : Nat) (g : List UInt8) (k : Nat) (h : k < needs g.length) : (blkL i g).take (k + 1) = (blkL i g).take k ++ [(i + k, blk i g k)] := by
  have hk : k < (blkL i g).length := by rw [blkL_len]; exact h
  rw [List.take_succ_eq_append_getElem hk]
  have e : (blkL i g)[k] = (i + k, blk i g k) := by simp [blkL]
  rw [e]
theorem piece_slice (g : List UInt8) (k t : Nat) (ht : t = min (58 * k + 58) g.length) : (bs g).extract (58 * k) t = bs (pieceAt g k) := by
  rw [bs_part, List.drop_take]
  congr 1
  unfold pieceAt
  by_cases h : 58 * k + 58 ≤ g.length
  · rw [ht, Nat.min_eq_left h, Nat.add_sub_cancel_left]
  · rw [List.take_of_length_le (by rw [List.length_drop]; omega), List.take_of_length_le (by rw [List.length_drop]; omega)]
set_option maxRecDepth 100000 in
set_option maxHeartbeats 1000000 in
theorem rblocks_any (g : List UInt8) (i : Nat) (w : World) : Calls Tryz.prog 64 #[.string (bs g), .int .i64 (i : Nat)] w fun e w' => e = .returned (.func (.func 92) #[] #[.pointer (some ⟨w.heap.size, 0, none⟩), .pointer (some ⟨w.heap.size + 1, 0, none⟩)]) ∧ Blk w' w.heap.size 9 #[.string (bs g)] ∧ Blk w' (w.heap.size + 1) 3 #[.int .i64 (i : Nat)] ∧ Frm (fun _ => False) w w' := by
  have b0 := (Blk.alloc w 9 #[.string (bs g)]).old (.cells #[.int .i64 (i : Nat)] 3)
  have b1 := Blk.alloc (w.alloc (.cells #[.string (bs g)] 9)) 3 #[.int .i64 (i : Nat)]
  rw [World.size_alloc] at b1
  have hg := ((Frm.refl (fun _ => False) w).alloc (.cells #[.string (bs g)] 9)).alloc (.cells #[.int .i64 (i : Nat)] 3)
  have hmf : ∀ (fn : Fn) (first cap : Array Value) (w : World), (Instr.makeFunc fn first cap).run Tryz.prog w = .ok (.func fn first cap) w := fun _ _ _ _ => rfl
  have HB := Lib.hid (And.intro b0 (And.intro b1 hg))
  clear b0 b1 hg
  go_enter Tryz.func64, Tryz.ntmps64
  go_wp2_with fail
  go_ret
  exact ⟨rfl, HB.out⟩
set_option maxRecDepth 100000 in
set_option maxHeartbeats 8000000 in
theorem blocks1_stops (Bg Bi B : Nat) (g : List UInt8) (i : Nat) (w : World) (hBg : Blk w Bg 9 #[.string (bs g)]) (hBi : Blk w Bi 3 #[.int .i64 (i : Nat)]) (hi : i + needs g.length ≤ B) (hB : B ≤ 65536) :
    SeqStopsK Fence.wide 8 Tryz.prog 92 #[.pointer (some ⟨Bg, 0, none⟩), .pointer (some ⟨Bi, 0, none⟩)] (fun x : BX B => rEnc x.1) keptR (fun xs => xs.map Subtype.val = blkL i g) (fun pre => pre.map Subtype.val <+: blkL i g) (blkL i g).length w := fun l0 J Jx W hW hJ hJx hY h0 => by
  have hBgW : Blk W Bg 9 #[.string (bs g)] := (hW.block Bg hBg.lt).trans hBg
  have hBiW : Blk W Bi 3 #[.int .i64 (i : Nat)] := (hW.block Bi hBi.lt).trans hBi
  have hgl : g.length ≤ 3801088 := by
    have hp := needs_pos g.length
    obtain ⟨m, hm⟩ : ∃ m, needs g.length = m + 1 := ⟨needs g.length - 1, by omega⟩
    have := needs_last (k := m) (n := g.length) (by omega)
    omega
  have HY := Lib.hid hY
  have HJ := Lib.hid hJ
  have HB := Lib.hid (And.intro hBgW hBiW)
  have HNE := Lib.hid (fun W' => needs_any (g.length : Int) W' (by unfold Z64; omega))
  have c0 := hBgW.cell 0 rfl
  have hsz : (bs g).size = g.length := rfl
  clear hW hBg hBi hBgW hBiW hY hJ
  obtain ⟨n, hn⟩ : ∃ n, needs g.length = n := ⟨_, rfl⟩
  have HN := Lib.hid hn
  obtain ⟨gl, hgl2⟩ : ∃ gl, g.length = gl := ⟨_, rfl⟩
  rw [hgl2] at hsz hgl HNE
  have HGL := Lib.hid hgl2
  rw [Int.toNat_natCast, ← hgl2, hn] at HNE
  rw [hn] at hi
  rw [hgl2] at HNE
  clear hn hgl2
  refine callsIn_of_wp Tryz.func92 rfl trivial ?_ rfl
  simp only [Tryz.ntmps92, List.size_toArray, List.length_cons, List.length_nil, Nat.reduceAdd, Nat.reduceSub, Array.replicate_succ, Array.replicate_zero, List.push_toArray, List.append_toArray, List.nil_append, List.cons_append]
  have hfe := ryield_eql
  gi_wp2_with fail
  refine ⟨trivial, (callsIn_wide.2 (HNE.out _)).mono ?_⟩
  rintro e w1 ⟨rfl, rfl⟩
  gi_wp2_with fail
  gi_loopw [10] (fun j wr => ∃ k : Nat, k ≤ n ∧ j = .int .i64 k ∧ (∃ xs : List (BX B), xs.map Subtype.val = (blkL i g).take k ∧ J xs wr) ∧ Blk wr Bg 9 #[.string (bs g)] ∧ Blk wr Bi 3 #[.int .i64 (i : Nat)]) (fun j _ => n - (intOf j).toNat)
  case atStart => exact ⟨0, Nat.zero_le _, rfl, ⟨[], rfl, h0⟩, HB.out.1, HB.out.2⟩
  case round =>
    obtain ⟨k, hk, rfl, ⟨xs, hxs, hJk⟩, bg, bi⟩ := hrel
    clear HB c0 h0
    by_cases hlt : k < n
    · have hkn : k < needs g.length := by rw [HN.out]; exact hlt
      have hk58 : k = 0 ∨ 58 * k < gl := by rw [← HGL.out]; exact (needs_lt k g.length).1 hkn
      obtain ⟨t, ht⟩ : ∃ t, min (58 * k + 58) gl = t := ⟨_, rfl⟩
      have hps := piece_slice g k t (by rw [HGL.out]; exact ht.symm)
      have hpl := pieceAt_len g k
      have hfl : flagAt g k = if decide (t = gl) then 1 else 0 := by
        unfold flagAt
        rw [HGL.out]
        by_cases e : 58 * (k + 1) < gl
        · rw [if_pos e, decide_eq_false (by omega)]; rfl
        · rw [if_neg e, decide_eq_true (by omega)]; rfl
      have hbk : blk i g k = logB (i + k) (if decide (t = gl) then 1 else 0) (pieceAt g k) := by unfold blk; rw [hfl]
      have HLB := fun W => logBlock_any (i + k) (pieceAt g k) (decide (t = gl)) W (by omega) hpl
      have hikB : i + k < B := by omega
      rw [← hbk] at HLB
      obtain ⟨p, hp⟩ : ∃ p, pieceAt g k = p := ⟨_, rfl⟩
      obtain ⟨bb, hbb⟩ : ∃ bb, blk i g k = bb := ⟨_, rfl⟩
      obtain ⟨last, hlast⟩ : ∃ last, decide (t = gl) = last := ⟨_, rfl⟩
      rw [hp] at HLB hps
      rw [hbb, hlast] at HLB
      have htake := blkL_take i g k hkn
      rw [hbb] at htake
      have hb64 : bb.length = 64 := by rw [← hbb]; exact blk_len i g k
      rw [← hxs] at htake
      have HT := Lib.hid htake
      obtain ⟨f, hf⟩ : ∃ f, 58 * k = f := ⟨_, rfl⟩
      rw [hf] at hps ht hk58
      have hli : ((t : Int) == (gl : Int)) = last := by rw [← hlast, Bool.eq_iff_iff]; simp; omega
      have hfi : (k : Int) * 58 = (f : Int) := by omega
      have hfw : IntKind.i64.wrap (f : Int) = (f : Int) := IntWalk.i64_in _ (by omega)
      have hgw : IntKind.i64.wrap ((f : Int) + 58) = (f : Int) + 58 := IntWalk.i64_in _ (by omega)
      have hmi : min ((f : Int) + 58) (gl : Int) = (t : Int) := by omega
      have hti1 : t ≤ gl := by omega
      have hti2 : (t : Int) ≤ (gl : Int) := by omega
      have hti3 : f ≤ t := by omega
      have hti4 : (f : Int) ≤ (t : Int) := by omega
      have hik : IntKind.i64.wrap ((i : Int) + (k : Int)) = (i : Int) + (k : Int) := IntWalk.i64_in _ (by omega)
      have hki : (k : Int) < (n : Int) := by omega
      have hln : xs.length < (blkL i g).length := by have := congrArg List.length hxs; rw [List.length_map, List.length_take, blkL_len] at this; rw [blkL_len]; omega
      rw [show (((i + k : Nat)) : Int) = (i : Int) + (k : Int) from by omega] at HLB
      have HLB' : Hid (∀ W, Calls Tryz.prog 93 #[.int .i64 ((i : Int) + (k : Int)), .string (bs p), .bool last] W fun e w' => e = .returned (.string (bs bb)) ∧ Frm (fun _ => False) W w') := Lib.hid HLB
      have c0 := bg.cell 0 rfl
      have c1 := bi.cell 0 rfl
      have HJK := Lib.hid (And.intro hJk (And.intro hln (And.intro bg bi)))
      have HX := Lib.hid (And.intro hikB hb64)
      clear hikB hb64 hxs
      clear HLB hlast hbb hp hbk hfl hpl hf ht hk58 hJk hln bg bi htake hkn
      gi_wp2_with fail
      refine wp_region_tailI 16 1 (fun W' => W'.cell? ⟨Bg, 0, none⟩ = some (.string (bs g)) ∧ W'.cell? ⟨Bi, 0, none⟩ = some (.int .i64 (i : Nat)) ∧ Frm (fun _ => False) wr W') (by kernel_rfl) rfl rfl (by kernel_rfl) (by kernel_rfl) (by kernel_rfl) (by kernel_rfl) (⟨c0, c1, (Frm.refl _ wr).drew⟩) ?_
      repeat' first
        | (refine CanonL.skip (by rfl) ?_; (try simp only [Act.put, List.setIfInBounds_toArray, List.set_cons_zero, List.set_cons_succ]))
        | (refine CanonL.callQ (by rfl) (by rfl) ?_ HLB' ?_ ?_; (focus (intro w; go_simp; (try (with_reducible rfl)); done)); (focus (rintro w ww hs gg; exact ⟨dFrm_cell gg hs.1, dFrm_cell gg hs.2.1, hs.2.2.trans gg⟩)); (try simp only [Act.put, List.setIfInBounds_toArray, List.set_cons_zero, List.set_cons_succ]))
        | (refine CanonL.val (v := ?_) (by rfl) ?_ ?_; rotate_left 1; (focus (intro w hSw; (try dsimp only at hSw); go_simp; (try (with_reducible rfl)); done)); (try simp only [Act.put, List.setIfInBounds_toArray, List.set_cons_zero, List.set_cons_succ]))
      refine CanonL.done ?_
      intro w9 hS9
      obtain ⟨_, _, g9⟩ := hS9
      have hJ9 : J xs w9 := HJ.out _ _ _ none HJK.out.1 g9.grownNoneR (fun _ e => by cases e)
      obtain ⟨fn, tmps, assign, body, hy, hR⟩ := HY.out xs ⟨(i + k, bb), HX.out⟩ w9 hJ9 HJK.out.2.1
      dsimp only [rEnc] at hy
      rw [show (((i + k : Nat)) : Int) = (i : Int) + (k : Int) from by omega] at hy
      have bg9 := HJK.out.2.2.1.keep g9 (fun h => h)
      have bi9 := HJK.out.2.2.2.keep g9 (fun h => h)
      have HB9 := Lib.hid (And.intro bg9 bi9)
      clear c0 c1 hJ9 g9 bg9 bi9
      refine wpTailI.cons rfl rfl (fun K hK => ?_)
      go_simp
      refine hR.mono ?_
      rintro e W3 (⟨rfl, hJ3, hk3⟩ | ⟨rfl, hJx3⟩)
      · have HJ3 := Lib.hid (And.intro hJ3 (And.intro (HB9.out.1.keptS hk3) (HB9.out.2.keptI hk3)))
        clear hJ3 hk3 hy hR HB9
        refine hK _ _ ?_
        clear hK K
        try simp only [Act.put, List.setIfInBounds_toArray, List.set_cons_zero, List.set_cons_succ]
        refine wpTailI.cons rfl rfl (fun K hK => ?_)
        go_simp
        refine hK _ _ ?_
        clear hK K
        try simp only [Act.put, List.setIfInBounds_toArray, List.set_cons_zero, List.set_cons_succ]
        refine wpTailI.done ?_
        gi_wp2_with fail
        go_roundw
        case rel => exact ⟨k + 1, hlt, by go_num, ⟨_, by rw [HT.out, List.map_append]; rfl, HJ3.out.1⟩, HJ3.out.2.1, HJ3.out.2.2⟩
        case measure => simp [intOf]; omega
      · have HJ3 := Lib.hid hJx3
        clear hJx3 hy hR HB9
        refine hK _ _ ?_
        clear hK K
        try simp only [Act.put, List.setIfInBounds_toArray, List.set_cons_zero, List.set_cons_succ]
        refine wpTailI.cons rfl rfl (fun K hK => ?_)
        go_simp
        refine hK _ _ ?_
        clear hK K
        try simp only [Act.put, List.setIfInBounds_toArray, List.set_cons_zero, List.set_cons_succ]
        refine wpTailI.done ?_
        gi_wp2_with fail
        refine bodyPost_ret (results_none rfl _ _ _) rfl ?_
        refine ⟨⟨_, rfl⟩, .inr ⟨_, ?_, HJ3.out⟩⟩
        rw [List.map_append, show List.map Subtype.val [(⟨(i + k, bb), HX.out⟩ : BX B)] = [(i + k, bb)] from rfl, ← HT.out]
        exact List.take_prefix _ _
    · obtain rfl : k = n := by omega
      have HJK := Lib.hid (And.intro hxs hJk)
      clear hJk hxs bg bi
      gi_wp2_with fail
      go_end0
      refine ⟨⟨_, rfl⟩, .inl ⟨xs, ?_, HJK.out.2⟩⟩
      have := HJK.out.1
      rw [List.take_of_length_le (by rw [blkL_len, HN.out]; exact Nat.le_refl _)] at this
      exact this
end Go.Proofs.YtdhnidmeeocajaaGreat

