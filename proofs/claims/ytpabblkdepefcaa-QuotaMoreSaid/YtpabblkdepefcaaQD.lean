/- What the function gives that spare hands out: each item that may go, the oldest one first. Of fewer than forty items. -/
import Derived.Test.YtpabblkdepefcaaQC
import Derived.RangeFuncNested
import Derived.RangeFuncBound
import Derived.RangeFuncCalls
import Derived.RangeFuncLeaves
import Derived.Shelf.Abstract
import Derived.Shelf.RegionOpen
import Derived.OwnWalkIn
import Derived.TacticsInMore
import Derived.LoopNIn
import Derived.LoopIn
namespace Go.Proofs.Ytpabblkdepefcaa
open Go.RowKit Go.Shelf
attribute [local go_sem] Oper.semAt_some

/-- What a round must leave as it lay: items, and maps. -/
def keepO : Obj → Bool
  | .cells _ t _ => t == 36
  | o => o.isWalk
def keptQ (W W' : World) : Prop := ∀ (k : Nat) (o : Obj), W.heap[k]? = some o → keepO o = true → W'.heap[k]? = some o
theorem keptQ.refl (W : World) : keptQ W W := fun _ _ h _ => h
theorem keptQ.trans {A B C : World} (h : keptQ A B) (k : keptQ B C) : keptQ A C := fun q o hq ho => k q o (h q o hq ho) ho
theorem keptQ.put {w : World} (W : World) (l : Nat) (o o' : Obj) (_ : w.heap.size ≤ l) (hl : W.heap[l]? = some o) (h1 : o.isCells = false) (h2 : o.isWalk = false) : keptQ W (W.putObj l o') := fun q x hq hx => by
  by_cases e : q = l
  · subst e
    rw [hl] at hq
    cases hq
    have : keepO o = false := by
      cases o <;> first | (simp [Obj.isCells] at h1; done) | (simp [Obj.isWalk] at h2; done) | rfl
    rw [this] at hx; cases hx
  · rw [World.putObj_heap_other e]; exact hq
theorem keptQ.ofFrm {X : Nat → Prop} {W W' : World} (h : Frm X W W') (hX : ∀ k o, X k → W.heap[k]? = some o → keepO o = false) : keptQ W W' := fun k o hk ho => by
  have hlt : k < W.heap.size := (Array.getElem?_eq_some_iff.1 hk).1
  rw [h.block k hlt (fun hx => by rw [hX k o hx hk] at ho; cases ho)]
  exact hk
theorem frm_of_belowQ {w w' : World} (h : Below w.heap.size w w') : Frm (fun _ => False) w w' := ⟨h.os, h.tape, h.output, h.size, fun k hk _ => h.block k hk⟩
theorem Frm.grownNone {w w' : World} (h : Frm (fun _ => False) w w') : w.grownBy w' none := ⟨h.os, h.tape, h.output, h.size, fun k hk _ => h.block k hk (fun h => h)⟩
abbrev qEnc (x : QI) : Array Value := #[.agg (qiv x)]
theorem qyield_eql (w : World) (f : Fn) (a c : Array Value) : (binOp .eql 50 (.func f a c) .nilFunc).run Try.prog w = .ok (.bool false) w := by
  have h : ∀ d : Nat, (Op.equalIn (d + 1) 50 (.func f a c) .nilFunc).run Try.prog w = .ok false w := fun d => by
    simp [Op.equalIn, run_underlying Try.underlying50]
  simp only [binOp]
  simp [Op.equal, Op.maxDepth, h 9999]
/-- A slice of the call's own, whose block bears items. -/
theorem QOwn.keepK {w w' : World} {v : Value} {l : List QI} (h : QOwn w v l) (hb : ∀ g, v.ownBlock = some g → w'.heap[g]? = w.heap[g]?) : QOwn w' v l := Row.keepB h hb
set_option maxRecDepth 100000 in
set_option maxHeartbeats 8000000 in
theorem spare1_stops (B : Nat) (v : Value) (l : List QI) (w : World) (hB : Blk w B 22 #[v]) (hs : QL w v l) (h40 : l.length < 40) :
    SeqStopsK Fence.wide 8 Try.prog 25 #[.pointer (some ⟨B, 0, none⟩)] qEnc keptQ (fun xs => xs = sprI (srtI l)) (fun pre => pre <+: sprI (srtI l) ∧ pre ≠ []) (sprI (srtI l)).length w := fun l0 J Jx W hW hJ hJx hY h0 => by
  have hBW : Blk W B 22 #[v] := (hW.block B hB.lt).trans hB
  have hsW : QL W v l := hs.keepF (frm_of_belowQ hW)
  have c0 := hBW.cell 0 rfl
  have HCL := Lib.hid (qclone_any v l W hsW (by omega))
  have HSO := Lib.hid fun (v : Value) (w : World) (h : QOwn w v l) (t : QTag w v) => qsort_own v l w h t h40
  clear hs hsW hBW hB hW
  refine callsIn_of_wp Try.func25 rfl trivial ?_ rfl
  simp only [Try.ntmps25, List.size_toArray, List.length_cons, List.length_nil, Nat.reduceAdd, Nat.reduceSub, Array.replicate_succ, Array.replicate_zero, List.push_toArray, List.append_toArray, List.nil_append, List.cons_append]
  have hmm := run_makeLast
  have hfe := qyield_eql
  gi_wp2_with fail
  refine ⟨trivial, (callsIn_wide.2 HCL.out).mono ?_⟩
  rintro e w1 ⟨v', rfl, o1, t1, g1, n1⟩
  gi_wp2_with fail
  refine ⟨trivial, (callsIn_wide.2 (HSO.out v' w1 o1 t1)).mono ?_⟩
  rintro e w2 ⟨rfl, o2, t2, g2⟩
  obtain ⟨S, hS⟩ : ∃ S, srtI l = S := ⟨_, rfl⟩
  rw [hS] at o2
  have hSl : S.length = l.length := by rw [← hS]; exact srtI_len l
  have gW : Frm (fun _ => False) W w2 := g1.next g2 (fun k hk e => by have := n1 k e; omega)
  have hn2 : ∀ g, v'.ownBlock = some g → g < w2.heap.size := Row.blk o2
  obtain ⟨a, cap, hv, hc1, hc2⟩ := o2.slice
  rw [hSl] at hv hc1
  subst hv
  have HSL := Lib.hid hSl
  have O2 := Lib.hid (And.intro o2 (And.intro t2 gW))
  have HN := Lib.hid hn2
  have HS := Lib.hid hS
  unfold maxLen at hc2
  clear hS hSl o1 t1 g1 n1 o2 t2 g2 gW hn2 HCL HSO c0
  have lm := LastM.start w2
  obtain ⟨mb, hmb⟩ : ∃ mb, w2.heap.size = mb := ⟨_, rfl⟩
  have HMB := Lib.hid hmb
  rw [hmb] at lm
  have gm : Frm (fun _ => False) w2 (w2.alloc (.map #[] 0)) := (Frm.refl _ w2).alloc _
  have LM := Lib.hid (And.intro lm gm)
  clear lm gm
  have hll : l.length < 40 := h40
  gi_wp2_with fail
  gi_loopw [16] (fun i wr => ∃ k : Nat, k ≤ l.length ∧ i = .int .i64 k ∧ QOwn wr (.slice a l.length cap) S ∧ QTag wr (.slice a l.length cap) ∧ LastM wr mb (S.take k) ∧ Frm (fun _ => False) W wr) (fun i _ => l.length - (intOf i).toNat)
  case atStart =>
    refine ⟨0, Nat.zero_le _, rfl, O2.out.1.keepK fun g hg => ?_, fun g hg => ?_, by rw [List.take_zero]; exact LM.out.1, O2.out.2.2.trans LM.out.2⟩
    · exact LM.out.2.block g (by have := HN.out g hg; have := HMB.out; omega) (fun h => h)
    · obtain ⟨cs, fr, h⟩ := O2.out.2.1 g hg
      exact ⟨cs, fr, (LM.out.2.block g (by have := HN.out g hg; have := HMB.out; omega) (fun h => h)).trans h⟩
  case round =>
    obtain ⟨k, hk, rfl, o3, t3, l3, g3⟩ := hrel
    have hmbs : W.heap.size ≤ mb := by have := O2.out.2.2.size; have := HMB.out; omega
    by_cases hlt : k < l.length
    · have hki : (k : Int) < (l.length : Int) := by omega
      have hk0 : (0 : Int) ≤ (k : Int) := by omega
      have hkS : k < S.length := by rw [HSL.out]; exact hlt
      obtain ⟨g, off, rfl, hg, e0, e1, e2, e3⟩ := (show QL wr (.slice a S.length cap) S by rw [HSL.out]; exact o3.read).elem k hkS
      obtain ⟨x, hx⟩ : ∃ x, S[k] = x := ⟨_, rfl⟩
      rw [hx] at e0 e1 e2 e3
      have htk : S.take (k + 1) = S.take k ++ [x] := by rw [List.take_succ_eq_append_getElem hkS, hx]
      have hlen : (S.take k).length = k := by rw [List.length_take]; omega
      have ga : Frm (fun _ => False) wr (wr.alloc (.cells (qiv x) 36)) := (Frm.refl _ wr).alloc _
      have b1 := Blk.alloc wr 36 (qiv x)
      have l4 := l3.keep ga (fun h => h)
      have r0 := b1.cell 0 rfl
      have r1 := b1.cell 1 rfl
      have r2 := b1.cell 2 rfl
      have r3 := b1.cell 3 rfl
      obtain ⟨n, D, hown, hnl, hmap, hat⟩ := l4
      have hput := LastM.put x hmap hat
      rw [hlen] at hnl hput
      rw [← htk] at hput
      have hkey := qpath_key x.path x.hp
      have hel : plainElem (H := Unit) Try.prog 3 (.int .i64 (k : Int)) = some (.lit (.int .i64 (k : Int)), []) := Go.plainElem_int Try.underlying3 (by
        have h1 : IntKind.i64.min = -9223372036854775808 := by decide
        have h2 : IntKind.i64.max = 9223372036854775807 := by decide
        simp [Lit.wf, h1, h2]; omega)
      have HP := Lib.hid hput
      have HM := Lib.hid (hmap.put (.string x.path) (.lit (.int .i64 (k : Int))))
      have HNL := Lib.hid hnl
      have K := Lib.hid (And.intro o3 (And.intro t3 (And.intro g3 (And.intro ga l3.lt))))
      have hnm : n < maxLen := by unfold maxLen; omega
      clear hput hmap hat o3 t3 g3 ga l3 hx htk hlen hnl b1
      gi_wp2_with (first | (gi_at_mapUpdate; refine wpListIn_mapUpdate_own _ rfl _ _ _ 53 rfl 9 3 (Go.Maps.string_keyed Try.underlying9) Try.underlying53 (plainElem Try.prog 3) mb n D rfl hown hnm _ _ _ rfl rfl hkey _ [] hel ?_; intro w4 hown4 hgrow4) | fail)
      have hX : Frm (· = mb) wr w4 := (K.out.2.2.2.1.mono (fun _ _ h => h.elim)).grown hgrow4 (fun k _ e => by cases e; rfl)
      have hne : ∀ q, Value.ownBlock (.slice (some ⟨g, off, none⟩) l.length cap) = some q → q ≠ mb := fun q e => by have := HN.out q e; have := HMB.out; omega
      go_roundw
      case rel =>
        refine ⟨k + 1, hlt, by go_num, K.out.1.keepK fun q hq => hX.block q (Row.blk K.out.1 q hq) (hne q hq), fun q hq => ?_, ⟨n + 1, _, hown4, by have := HNL.out; have := HSL.out; rw [List.length_take]; omega, HM.out, HP.out⟩, K.out.2.2.1.next hX (fun q hq e => by omega)⟩
        obtain ⟨cs, fr, h⟩ := K.out.2.1 q hq
        exact ⟨cs, fr, (hX.block q (Row.blk K.out.1 q hq) (hne q hq)).trans h⟩
      case measure => simp [intOf]; omega
    · obtain rfl : k = l.length := by omega
      rw [show S.take l.length = S from by rw [← HSL.out, List.take_length]] at l3
      have hJ0 : J [] wr := hJ [] W wr none h0 g3.grownNone (fun _ e => by cases e)
      have K := Lib.hid (And.intro o3 (And.intro t3 (And.intro l3 hJ0)))
      clear o3 t3 l3 hJ0 g3 h0 O2 LM
      gi_wp2_with fail
      gi_loopw [28] (fun i wr => ∃ k : Nat, k ≤ l.length ∧ i = .int .i64 k ∧ QOwn wr (.slice a l.length cap) S ∧ QTag wr (.slice a l.length cap) ∧ LastM wr mb S ∧ J (doneI S k) wr) (fun i _ => l.length - (intOf i).toNat)
      case atStart => exact ⟨0, Nat.zero_le _, rfl, K.out.1, K.out.2.1, K.out.2.2.1, by rw [doneI_zero]; exact K.out.2.2.2⟩
      case round =>
        clear K
        obtain ⟨k, hk, rfl, o3, t3, l3, j3⟩ := hrel
        by_cases hlt : k < l.length
        · have hki : (k : Int) < (l.length : Int) := by omega
          have hk0 : (0 : Int) ≤ (k : Int) := by omega
          have hkS : k < S.length := by rw [HSL.out]; exact hlt
          obtain ⟨g, off, rfl, hg, e0, e1, e2, e3⟩ := (show QL wr (.slice a S.length cap) S by rw [HSL.out]; exact o3.read).elem k hkS
          have hds := doneI_succ S k hkS
          have hdp := doneI_pre S (k + 1) hkS
          obtain ⟨x, hx⟩ : ∃ x, S[k] = x := ⟨_, rfl⟩
          rw [hx] at e0 e1 e2 e3 hds
          have ga : Frm (fun _ => False) wr (wr.alloc (.cells (qiv x) 36)) := (Frm.refl _ wr).alloc _
          have b1 := Blk.alloc wr 36 (qiv x)
          have r0 := b1.cell 0 rfl
          have r1 := b1.cell 1 rfl
          have r2 := b1.cell 2 rfl
          have r3 := b1.cell 3 rfl
          have hlk := (l3.keep ga (fun h => h)).look x.path x.hp
          have hJ1 : J (doneI S k) (wr.alloc (.cells (qiv x) 36)) := hJ _ _ _ none j3 (World.grownBy_alloc wr _ none) (fun _ e => by cases e)
          have o4 : QOwn (wr.alloc (.cells (qiv x) 36)) (.slice (some ⟨g, off, none⟩) l.length cap) S := Row.alloc o3 _
          have t4 : QTag (wr.alloc (.cells (qiv x) 36)) (.slice (some ⟨g, off, none⟩) l.length cap) := fun q hq => by
            obtain ⟨cs, fr, h⟩ := t3 q hq
            exact ⟨cs, fr, (Below.heap_alloc _ _ _ (Row.blk o3 q hq)).trans h⟩
          have l4 := l3.keep ga (fun h => h)
          have K := Lib.hid (And.intro o4 (And.intro t4 (And.intro l4 hJ1)))
          have HDS := Lib.hid hds
          have HDP := Lib.hid hdp
          clear o3 t3 l3 j3 hds hdp hx o4 t4 l4 ga b1
          by_cases he : lastIx S x.path = k
          · have hq : ((k : Int) != ((lastIx S x.path : Nat) : Int)) = false := by rw [he]; simp
            have hq2 : ((k : Int) == ((lastIx S x.path : Nat) : Int)) = true := by rw [he]; simp
            have HE := Lib.hid he
            clear he hJ1
            gi_wp2_with fail
            refine ⟨fun _ h => (by cases h), ?_⟩
            gi_wp2_with fail
            go_roundw
            case rel => exact ⟨k + 1, hlt, by go_num, K.out.1, K.out.2.1, K.out.2.2.1, by rw [HDS.out, if_pos HE.out, List.append_nil]; exact K.out.2.2.2⟩
            case measure => simp [intOf]; omega
          · have hq : ((k : Int) != ((lastIx S x.path : Nat) : Int)) = true := by simp; omega
            have hq2 : ((k : Int) == ((lastIx S x.path : Nat) : Int)) = false := by simp; omega
            have hdk : doneI S (k + 1) = doneI S k ++ [x] := by rw [HDS.out, if_neg he]
            have hln : (doneI S k).length < (sprI S).length := by
              have := HDP.out.length_le
              rw [hdk, List.length_append, List.length_singleton] at this
              omega
            obtain ⟨fn, tmps, assign, body, hy, hR⟩ := hY (doneI S k) x _ hJ1 (by rw [HS.out]; exact hln)
            dsimp only [qEnc] at hy
            have HDK := Lib.hid hdk
            clear hJ1 he hdk hln
            gi_wp2_with fail
            refine hR.mono ?_
            rintro e W3 (⟨rfl, hJ3, hk3⟩ | ⟨rfl, hJx3⟩)
            · have o5 : QOwn W3 (.slice (some ⟨g, off, none⟩) l.length cap) S := K.out.1.keepK fun q hq => by
                obtain ⟨cs, fr, h⟩ := K.out.2.1 q hq
                exact (hk3 q _ h (by simp [keepO])).trans h.symm
              have t5 : QTag W3 (.slice (some ⟨g, off, none⟩) l.length cap) := fun q hq => by
                obtain ⟨cs, fr, h⟩ := K.out.2.1 q hq
                exact ⟨cs, fr, hk3 q _ h (by simp [keepO])⟩
              have l5 : LastM W3 mb S := K.out.2.2.1.keepB (by
                obtain ⟨o, ho, hw⟩ := K.out.2.2.1.isMap
                rw [ho]
                exact hk3 mb o ho (by cases o <;> first | (simp [Obj.isWalk] at hw; done) | rfl))
              have K5 := Lib.hid (And.intro o5 (And.intro t5 (And.intro l5 hJ3)))
              clear o5 t5 l5 hJ3 hk3 K
              gi_wp2_with fail
              go_roundw
              case rel => exact ⟨k + 1, hlt, by go_num, K5.out.1, K5.out.2.1, K5.out.2.2.1, by rw [HDK.out]; exact K5.out.2.2.2⟩
              case measure => simp [intOf]; omega
            · gi_wp2_with fail
              refine bodyPost_ret (results_none rfl _ _ _) rfl ?_
              exact ⟨⟨_, rfl⟩, .inr ⟨doneI S k ++ [x], ⟨by rw [← HDK.out, HS.out]; exact HDP.out, List.append_ne_nil_of_right_ne_nil _ (by simp)⟩, hJx3⟩⟩
        · obtain rfl : k = l.length := by omega
          rw [show doneI S l.length = sprI S from by rw [← HSL.out]; exact doneI_all S] at j3
          have HJ := Lib.hid j3
          clear o3 t3 l3 j3
          gi_wp2_with fail
          go_end0
          exact ⟨⟨_, rfl⟩, .inl ⟨sprI S, by rw [HS.out], HJ.out⟩⟩
end Go.Proofs.Ytpabblkdepefcaa
