/- What New, Write, Read, Firm, Blocks do. No condition. -/
import Derived.Test.YtdhnidmeeocajaaGreatDvAct
namespace Go.Proofs.YtdhnidmeeocajaaGreat
open Go.RowKit

theorem padB_over (l : List UInt8) (h : l.length ≤ 64) : zb.take 0 ++ l.take (min l.length 64) ++ zb.drop (0 + (l.take (min l.length 64)).length) = padB l := by
  rw [Nat.min_eq_left h, List.take_length, List.take_zero, List.nil_append, Nat.zero_add]
  unfold padB zb
  rw [List.drop_replicate]
theorem cells_u8s {w : World} {b : Nat} {l : List UInt8} (h : Blk w b 112 (u8s l).toArray) (j : Nat) (hj : j < l.length) : w.cell? ⟨b, j, none⟩ = (u8s l)[j]? := by
  rw [u8s_get l j hj]
  exact h.cell j (by simpa using u8s_get l j hj)
theorem blk_text {w : World} {b : Nat} {l : List UInt8} (h : Blk w b 112 (u8s l).toArray) (hl : l.length = 64) (c : Nat) : (convert 77 9 (.slice (some ⟨b, 0, none⟩) 64 c)).run Tryz.prog w = .ok (.string (bs l)) w :=
  run_text_at Tryz.underlying77 Tryz.underlying9 Tryz.underlying5 w b 64 c l hl fun j hj => cells_u8s h j (by omega)
section
variable {ops : Array Oper} {rest : List Oper} {o : Oper} {a : Act} {w : World} {Q : Exit → Act → World → Prop}
/-- A text is copied over a block of bytes 0. -/
theorem wpl_copy_text (hg : o.guard = none) (d s : Operand) (hop : o.op = Op.call { callee := Callee.builtin Builtin.copy, args := #[d, s], argTypes := #[77, 9] }) (b c : Nat) (l : List UInt8)
    (hd : a.eval d = .slice (some ⟨b, 0, none⟩) 64 c) (hs : a.eval s = .string (bs l)) (h : Blk w b 112 (u8s zb).toArray) (hl : l.length ≤ 64)
    (hK : ∀ w', Blk w' b 112 (u8s (padB l)).toArray → Frm (· = b) w w' → w'.heap.size = w.heap.size → wpList Tryz.prog ops Q rest (a.put o.dst (.int .i64 (min l.length 64 : Nat))) w') : wpList Tryz.prog ops Q (o :: rest) a w := by
  refine wpList_plain hg fun K' hK' => ?_
  have hrun := run_copy_text (P := Tryz.prog) w 77 9 o.type 5 b 0 64 c l Tryz.underlying77 (by kernel_rfl) (fun j hj => by rw [Nat.zero_add, cells_u8s h j (by rw [zb_len]; omega), u8s_get zb j (by rw [zb_len]; omega)]; rfl) (fun j _ => h.free _)
  have hb := Blk.setBytes (l.take (min l.length 64)) zb 0 w h (by rw [List.length_take, zb_len]; omega)
  rw [padB_over l hl] at hb
  unfold Oper.wp
  simp [execOp, hop, resolve, invoke, builtin, hd, hs, hrun, Result.andThen]
  exact hK' _ _ (hK _ hb (setBytes_frm b 0 _ w) (setCells_rest b _ 0 w).2.2.2)
/-- A block is stored. -/
theorem wpl_store_bytes (hgd : o.guard = none) (x y : Operand) (ho : o.op = .store 112 x y) (b : Nat) (l m : List UInt8) (hx : a.eval x = .pointer (some ⟨b, 0, none⟩)) (hy : a.eval y = bkv l) (h : Blk w b 112 (u8s m).toArray) (hm : m.length = 64) (hl : l.length = 64)
    (hK : ∀ w', Blk w' b 112 (u8s l).toArray → Frm (· = b) w w' → w'.heap.size = w.heap.size → wpList Tryz.prog ops Q rest (a.put o.dst undef) w') : wpList Tryz.prog ops Q (o :: rest) a w := by
  have hs : (u8s m).toArray.size = (u8s l).toArray.size := by simp [u8s_length, hm, hl]
  refine wpList_plain hgd fun K hK' => wp_store_row 112 x y ho b _ hx hy 112 _ h (by rw [List.size_toArray, u8s_length, hl]; kernel_rfl) hs (by rw [Array.all_eq_true_iff_forall_mem]; intro v hv; exact u8_one v (by simpa using hv)) (hK' _ _ (hK _ ?_ ?_ ?_))
  · simp only [Blk] at h
    simp only [Blk, World.setRow, Array.getElem?_modify]
    simp [h]
  · refine ⟨rfl, rfl, rfl, by simp [World.setRow], fun k _ hk => ?_⟩
    simp only [World.setRow, Array.getElem?_modify]
    rw [if_neg (fun e => hk e.symm)]
  · simp [World.setRow]
/-- A block is looked up. -/
theorem wpl_look_blk (hg : o.guard = none) (m x : Operand) (hop : o.op = Op.lookup 73 m x false) (b n k : Nat) (G : Nat → Option (List UInt8)) (hm : a.eval m = .map (some b)) (hx : a.eval x = .int .i64 (k : Int)) (h : MapB w b n G) (hk : k ≤ 9223372036854775807)
    (hK : wpList Tryz.prog ops Q rest (a.put o.dst (bkv ((G k).getD zb))) w) : wpList Tryz.prog ops Q (o :: rest) a w := by
  refine wpList_plain hg fun K' hK' => ?_
  have hrun := h.look k hk
  unfold Oper.wp
  simp [execOp, hop, hm, hx, hrun, Result.andThen]
  exact hK' _ _ hK
theorem wpl_lookOk_blk (hg : o.guard = none) (m x : Operand) (hop : o.op = Op.lookup 73 m x true) (b n k : Nat) (G : Nat → Option (List UInt8)) (hm : a.eval m = .map (some b)) (hx : a.eval x = .int .i64 (k : Int)) (h : MapB w b n G) (hk : k ≤ 9223372036854775807)
    (hK : wpList Tryz.prog ops Q rest (a.put o.dst (.tuple #[bkv ((G k).getD zb), .bool (G k).isSome])) w) : wpList Tryz.prog ops Q (o :: rest) a w := by
  refine wpList_plain hg fun K' hK' => ?_
  have hrun := h.lookOk k hk
  unfold Oper.wp
  simp [execOp, hop, hm, hx, hrun, Result.andThen]
  exact hK' _ _ hK
end

set_option maxRecDepth 100000 in
set_option maxHeartbeats 4000000 in
theorem read_any (b f x : Nat) (D : DV) (q : Int) (w : World) (h : DevM w b f x D) (hq : Z64 q) :
    Calls Tryz.prog 28 #[.pointer (some ⟨b, 0, none⟩), .int .i64 q] w fun e w' => e = .returned (.tuple #[.string (bs (if D.bad q then [] else D.read q.toNat)), .int .i64 (if D.bad q then 2 else 0)]) ∧ Frm (fun _ => False) w w' := by
  have HC := Lib.hid (dcheck_any b f x D q w h)
  have c2 := h.fc
  have c3 := h.xc
  have hi := h.ok.hi
  have hfl := h.ok.fl q.toNat
  have hrl := h.ok.rlen q.toNat
  have hok := Lib.hid h.ok
  have H := Lib.hid h
  clear h
  cases hb : D.bad q with
  | true =>
    rw [hb] at HC
    clear hb
    go_enter Tryz.func28, Tryz.ntmps28
    go_wp2_with fail
    refine HC.out.mono ?_
    rintro e w1 ⟨rfl, rfl⟩
    go_wp2_with fail
    go_ret2
    exact ⟨rfl, Frm.refl _ _⟩
  | false =>
    rw [hb] at HC
    have hb2 := of_decide_eq_false hb
    clear hb
    obtain ⟨k, rfl⟩ : ∃ k : Nat, q = (k : Int) := ⟨q.toNat, by omega⟩
    have hkn : k < D.n := by omega
    rw [show ((k : Int)).toNat = k from rfl] at hfl hrl ⊢
    have hG := D.firmG_get k
    have bl := Blk.alloc w 112 (u8s zb).toArray
    clear hb2
    obtain ⟨y, hy⟩ : ∃ y, D.X k = y := ⟨_, rfl⟩
    cases y with
    | none =>
      have hrd : D.read k = D.F k := by unfold DV.read; rw [hy]; rfl
      rw [hrd]
      clear hrd hrl
      go_enter Tryz.func28, Tryz.ntmps28
      go_wp2_with fail
      refine HC.out.mono ?_
      rintro e w1 ⟨rfl, rfl⟩
      go_wp2_with (first
        | (at_lookup; refine wpl_lookOk_blk rfl _ _ rfl x D.n k D.X rfl rfl H.out.fresh (by omega) ?_; rw [hy]; simp only [Option.getD, Option.isSome])
        | (refine wpl_store_bytes rfl (.tmp 7) (.tmp 22) rfl w.heap.size zb zb rfl rfl bl zb_len zb_len ?_; intro w1 hm1 hg1 hs1; have c4 : w1.cell? ⟨b, 2, none⟩ = some (.map (some f)) := (H.out.keepF (((Frm.refl (fun _ => False) w).alloc _).next hg1 fun j hj e => by omega)).fc; have hf1 := (H.out.keepF (((Frm.refl (fun _ => False) w).alloc _).next hg1 fun j hj e => by omega)).firm)
        | (at_lookup; refine wpl_look_blk rfl _ _ rfl f D.n k D.firmG rfl rfl hf1 (by omega) ?_; rw [hG])
        | (refine wpl_store_bytes rfl (.tmp 7) (.tmp 31) rfl w.heap.size (D.F k) zb rfl rfl hm1 zb_len hfl ?_; intro w2 hm2 hg2 hs2; have hcv := blk_text hm2 hfl 64)
        | fail)
      go_ret2
      exact ⟨rfl, (((Frm.refl (fun _ => False) w).alloc _).next hg1 fun j hj e => by omega).next hg2 fun j hj e => by omega⟩
    | some l =>
      have hrd : D.read k = l := by unfold DV.read; rw [hy]; rfl
      rw [hrd] at hrl ⊢
      clear hrd
      go_enter Tryz.func28, Tryz.ntmps28
      go_wp2_with fail
      refine HC.out.mono ?_
      rintro e w1 ⟨rfl, rfl⟩
      go_wp2_with (first
        | (at_lookup; refine wpl_lookOk_blk rfl _ _ rfl x D.n k D.X rfl rfl H.out.fresh (by omega) ?_; rw [hy]; simp only [Option.getD, Option.isSome])
        | (refine wpl_store_bytes rfl (.tmp 7) (.tmp 22) rfl w.heap.size l zb rfl rfl bl zb_len hrl ?_; intro w1 hm1 hg1 hs1; have hcv := blk_text hm1 hrl 64)
        | fail)
      go_ret2
      exact ⟨rfl, ((Frm.refl (fun _ => False) w).alloc _).next hg1 fun j hj e => by omega⟩

/-- What Write answers. -/
def DV.writeE (D : DV) (q : Int) (s : List UInt8) : Nat := if D.bad q then 2 else if 64 < s.length then 3 else 0
/-- What Write leaves. -/
def DV.writeTo (D : DV) (q : Int) (s : List UInt8) : DV := if D.writeE q s = 0 then D.write q.toNat s else D
set_option maxRecDepth 100000 in
set_option maxHeartbeats 4000000 in
theorem write_any (b f x : Nat) (D : DV) (q : Int) (s : List UInt8) (w : World) (h : DevM w b f x D) (hq : Z64 q) (hs : s.length ≤ 9223372036854775807) :
    Calls Tryz.prog 32 #[.pointer (some ⟨b, 0, none⟩), .int .i64 q, .string (bs s)] w fun e w' => e = .returned (.int .i64 (D.writeE q s : Nat)) ∧ DevM w' b f x (D.writeTo q s) ∧ Frm (· = x) w w' := by
  have HC := Lib.hid (dcheck_any b f x D q w h)
  have c3 := h.xc
  have hi := h.ok.hi
  have hlt := h.lt
  have H := Lib.hid h
  clear h
  unfold DV.writeTo DV.writeE
  cases hb : D.bad q with
  | true =>
    rw [hb] at HC
    clear hb
    go_enter Tryz.func32, Tryz.ntmps32
    go_wp2_with fail
    refine HC.out.mono ?_
    rintro e w1 ⟨rfl, rfl⟩
    go_wp2_with fail
    go_ret
    exact ⟨rfl, H.out, Frm.refl _ _⟩
  | false =>
    rw [hb] at HC
    have hb2 := of_decide_eq_false hb
    clear hb
    obtain ⟨k, rfl⟩ : ∃ k : Nat, q = (k : Int) := ⟨q.toNat, by omega⟩
    have hkn : k < D.n := by omega
    rw [show ((k : Int)).toNat = k from rfl]
    clear hb2
    by_cases hl : s.length ≤ 64
    · have hl2 : ¬ (64 : Int) < ((bs s).size : Int) := by rw [bs_size]; omega
      have hl3 : ¬ 64 < s.length := by omega
      have bl := Blk.alloc w 112 (u8s zb).toArray
      have hpl := padB_len hl
      rw [show (if false = true then 2 else if 64 < s.length then 3 else 0 : Nat) = 0 from by simp [hl3]]
      rw [if_pos rfl]
      go_enter Tryz.func32, Tryz.ntmps32
      go_wp2_with fail
      refine HC.out.mono ?_
      rintro e w1 ⟨rfl, rfl⟩
      go_upto_region 8 with (first
        | (refine wpl_copy_text rfl (.tmp 18) (.tmp 19) rfl w.heap.size 64 s rfl rfl bl hl ?_; intro w1 hm1 hg1 hs1)
        | fail)
      have g1 : Frm (fun _ => False) w w1 := ((Frm.refl (fun _ => False) w).alloc _).next hg1 fun j hj e => by omega
      have h1 := H.out.keepF g1
      have c4 := h1.xc
      refine wp_region_root (fun w' => w'.cell? ⟨b, 3, none⟩ = some (.map (some x)) ∧ (Instr.loadAt 112 (.pointer (some ⟨w.heap.size, 0, none⟩))).run Tryz.prog w' = .ok (bkv (padB s)) w' ∧ Frm (fun _ => False) w w' ∧ DevM w' b f x D) (by kernel_rfl) rfl rfl (by kernel_rfl) (by kernel_rfl) (by kernel_rfl) (⟨c4, blk_load hm1.drew hpl, g1.drew, h1.keepF (Frm.refl _ _).drew⟩) ?_
      repeat' first
        | (refine CanonL.skip (by rfl) ?_; (try simp only [Act.put, List.setIfInBounds_toArray, List.set_cons_zero, List.set_cons_succ]))
        | (refine CanonL.load (by rfl) _ (by rfl) (by rfl) (fun w hs => hs.2.1) ?_; (try simp only [Act.put, List.setIfInBounds_toArray, List.set_cons_zero, List.set_cons_succ]))
        | (refine CanonL.val (v := ?_) (by rfl) ?_ ?_; rotate_left 1; (focus (intro w hSw; (try dsimp only at hSw); go_simp; (try (with_reducible rfl)); done)); (try simp only [Act.put, List.setIfInBounds_toArray, List.set_cons_zero, List.set_cons_succ]))
      refine CanonL.done ?_
      intro w9 hS9
      obtain ⟨_, _, g2, h2⟩ := hS9
      refine MapB.wpOp_store rfl rfl rfl _ _ _ rfl x D.n k (padB s) D.X rfl rfl rfl h2.fresh (by omega) hkn hpl ?_
      intro w3 hm3 hg3 hs3
      go_wp2_with fail
      go_ret
      exact ⟨rfl, ⟨h2.blk.keep hg3 h2.bx, h2.firm.keep hg3 h2.fx, hm3, h2.bf, h2.bx, h2.fx, h2.ok.write hkn hl⟩, (g2.mono fun _ _ h => h.elim).trans hg3⟩
    · have hl2 : (64 : Int) < ((bs s).size : Int) := by rw [bs_size]; omega
      have hl3 : 64 < s.length := by omega
      rw [show (if false = true then 2 else if 64 < s.length then 3 else 0 : Nat) = 3 from by simp [hl3]]
      rw [if_neg (by decide)]
      go_enter Tryz.func32, Tryz.ntmps32
      go_wp2_with fail
      refine HC.out.mono ?_
      rintro e w1 ⟨rfl, rfl⟩
      go_wp2_with fail
      go_ret
      exact ⟨rfl, H.out, Frm.refl _ _⟩

set_option maxRecDepth 100000 in
set_option maxHeartbeats 1000000 in
theorem blocks_any (b f x : Nat) (D : DV) (w : World) (h : DevM w b f x D) :
    Calls Tryz.prog 36 #[.pointer (some ⟨b, 0, none⟩)] w fun e w' => e = .returned (.int .i64 (D.n : Nat)) ∧ w = w' := by
  have c1 := h.n
  have HM := Lib.hid (dmade_any b f x D w h)
  clear h
  go_enter Tryz.func36, Tryz.ntmps36
  go_wp2_with fail
  refine HM.out.mono ?_
  rintro e w1 ⟨rfl, rfl⟩
  go_wp2_with fail
  go_ret
  exact ⟨rfl, rfl⟩

/-- A device that a call has made. -/
def NewDev (D : DV) (w : World) (v : Value) (w' : World) : Prop := ∃ b f x, v = .pointer (some ⟨b, 0, none⟩) ∧ DevM w' b f x D ∧ w.heap.size ≤ b ∧ w.heap.size ≤ f ∧ w.heap.size ≤ x ∧ Frm (fun _ => False) w w'
set_option maxRecDepth 100000 in
set_option maxHeartbeats 1000000 in
theorem build_any (f x : Nat) (D : DV) (w : World) (hok : D.ok) (hf : MapB w f D.n D.firmG) (hx : MapB w x D.n D.X) (hfx : f ≠ x) :
    Calls Tryz.prog 35 #[.int .i64 (D.n : Nat), .map (some f), .map (some x)] w fun e w' => e = .returned (.pointer (some ⟨w.heap.size, 0, none⟩)) ∧ DevM w' w.heap.size f x D ∧ Frm (fun _ => False) w w' := by
  have hlf := hf.lt
  have hlx := hx.lt
  have HF := Lib.hid (And.intro hf (And.intro hx hok))
  clear hf hx hok
  go_enter Tryz.func35, Tryz.ntmps35
  go_wp2_with fail
  go_ret
  have hb := Blk.alloc w 115 #[.pointer (some ⟨w.heap.size, 0, none⟩), .int .i64 (D.n : Nat), .map (some f), .map (some x)]
  have g := (Frm.refl (fun _ => False) w).alloc (.cells #[.pointer (some ⟨w.heap.size, 0, none⟩), .int .i64 (D.n : Nat), .map (some f), .map (some x)] 115)
  exact ⟨rfl, ⟨hb, HF.out.1.keep g (fun h => h), HF.out.2.1.keep g (fun h => h), by omega, by omega, hfx, HF.out.2.2⟩, g⟩
end Go.Proofs.YtdhnidmeeocajaaGreat

