/- A table in memory: itself, its map, its index, the next id; whether it is one, what is asked of it by an id, Skip. No condition. -/
import Derived.Test.YtjodkgbpbibfbaaDdA
import Derived.Test.YtjodkgbpbibfbaaHashD
import Derived.LaidEqlPtr
import Derived.BigQuiet
import Derived.Laws.ResultCell
import Derived.Laws.Rows
namespace Go.Proofs.Ytjodkgbpbibfbaa
open Go.RowKit

/-- The table at block b, its map at m, its index at x, of the blocks fq. -/
structure TabH (w : World) (b m x : Nat) (I : List (Nat × Nat)) (T : TbV) (fq fp : Nat → Prop) : Prop where
  blk : Blk w b 64 #[.pointer (some ⟨b, 0, none⟩), .map (some m), .pointer (some ⟨x, 0, none⟩), .int .u32 (T.nx : Nat)]
  map : MapH w m T.get
  idx : Hx w x (sel I) fq
  ix : IxT I T
  ok : T.ok
  bm : b ≠ m
  qb : ¬ fq b
  qm : ¬ fq m
  fb : fp b
  fm : fp m
  fx : ∀ k, fq k → fp k
  lt : ∀ k, fp k → k < w.heap.size
def TabM (w : World) (b : Nat) (T : TbV) (fp : Nat → Prop) : Prop := ∃ m x I fq, TabH w b m x I T fq fp
section
variable {w w' : World} {b m x : Nat} {I : List (Nat × Nat)} {T : TbV} {fq fp X : Nat → Prop}
theorem TabH.keep (h : TabH w b m x I T fq fp) (hf : Frm X w w') (hn : ∀ k, fp k → ¬ X k) : TabH w' b m x I T fq fp :=
  ⟨h.blk.keep hf (hn _ h.fb), h.map.keep hf (hn _ h.fm), h.idx.keep hf (fun k hk => hn k (h.fx k hk)), h.ix, h.ok, h.bm, h.qb, h.qm, h.fb, h.fm, h.fx, fun k hk => Nat.lt_of_lt_of_le (h.lt k hk) hf.size⟩
theorem TabH.keepF (h : TabH w b m x I T fq fp) (hf : Frm (fun _ => False) w w') : TabH w' b m x I T fq fp := h.keep hf fun _ _ h => h
theorem TabH.self (h : TabH w b m x I T fq fp) : w.cell? ⟨b, 0, none⟩ = some (.pointer (some ⟨b, 0, none⟩)) := h.blk.cell 0 rfl
theorem TabH.mc (h : TabH w b m x I T fq fp) : w.cell? ⟨b, 1, none⟩ = some (.map (some m)) := h.blk.cell 1 rfl
theorem TabH.xc (h : TabH w b m x I T fq fp) : w.cell? ⟨b, 2, none⟩ = some (.pointer (some ⟨x, 0, none⟩)) := h.blk.cell 2 rfl
theorem TabH.nc (h : TabH w b m x I T fq fp) : w.cell? ⟨b, 3, none⟩ = some (.int .u32 (T.nx : Nat)) := h.blk.cell 3 rfl
theorem TabM.keep (h : TabM w b T fp) (hf : Frm X w w') (hn : ∀ k, fp k → ¬ X k) : TabM w' b T fp := by
  obtain ⟨m, x, I, fq, h⟩ := h
  exact ⟨m, x, I, fq, h.keep hf hn⟩
theorem TabM.keepF (h : TabM w b T fp) (hf : Frm (fun _ => False) w w') : TabM w' b T fp := h.keep hf fun _ _ h => h
theorem TabM.lt (h : TabM w b T fp) : ∀ k, fp k → k < w.heap.size := by
  obtain ⟨m, x, I, fq, h⟩ := h
  exact h.lt
theorem TabM.ok (h : TabM w b T fp) : T.ok := by
  obtain ⟨m, x, I, fq, h⟩ := h
  exact h.ok
end
/-- What a call leaves. -/
def TabTo (b : Nat) (fp : Nat → Prop) (T' : TbV) (w w' : World) : Prop :=
  ∃ fp', TabM w' b T' fp' ∧ Frm fp w w' ∧ ∀ k, fp' k → fp k ∨ w.heap.size ≤ k
theorem TabTo.same {b : Nat} {T : TbV} {fp : Nat → Prop} {w w' : World} (h : TabM w b T fp) (f : Frm (fun _ => False) w w') : TabTo b fp T w w' :=
  ⟨fp, h.keepF f, f.mono fun _ _ h => h.elim, fun _ h => .inl h⟩
theorem TabTo.from_ {b : Nat} {T : TbV} {fp : Nat → Prop} {w w1 w' : World} (f : Frm (fun _ => False) w w1) (h : TabTo b fp T w1 w') : TabTo b fp T w w' := by
  obtain ⟨fp', h1, h2, h3⟩ := h
  exact ⟨fp', h1, (f.mono fun _ _ h => h.elim).trans h2, fun k hk => (h3 k hk).elim .inl (fun e => .inr (Nat.le_trans f.size e))⟩
theorem TabTo.next {b : Nat} {T : TbV} {fp fp1 : Nat → Prop} {w w1 w' : World} (f : Frm fp w w1) (hf : ∀ k, fp1 k → fp k ∨ w.heap.size ≤ k) (h : TabTo b fp1 T w1 w') : TabTo b fp T w w' := by
  obtain ⟨fp', h1, h2, h3⟩ := h
  exact ⟨fp', h1, f.next h2 (fun k hk e => (hf k e).elim id (fun e => by omega)), fun k hk => (h3 k hk).elim (hf k) (fun e => .inr (Nat.le_trans f.size e))⟩

theorem tab_same (w : World) (a : Addr) : (binOp .eql 25 (.pointer (some a)) (.pointer (some a))).run Try.prog w = .ok (.bool true) w := by
  obtain ⟨j, hj⟩ := Option.isSome_iff_exists.1 (show (Try.prog.info? 64).isSome = true by kernel_rfl)
  exact run_eql_ptr_same w a Try.underlying25 hj
theorem tab_nil (w : World) (a : Addr) : (binOp .eql 25 (.pointer none) (.pointer (some a))).run Try.prog w = .ok (.bool false) w := by
  have h : ∀ d : Nat, (Op.equalIn (d + 1) 25 (.pointer none) (.pointer (some a))).run Try.prog w = .ok false w := fun d => by
    simp [Op.equalIn, run_underlying Try.underlying25]
  simp only [binOp]
  simp [Op.equal, Op.maxDepth, h 9999]
set_option maxHeartbeats 400000 in
theorem tmade_self (b : Nat) (w : World) (c0 : w.cell? ⟨b, 0, none⟩ = some (.pointer (some ⟨b, 0, none⟩))) :
    Calls Try.prog 35 #[.pointer (some ⟨b, 0, none⟩)] w fun e w' => e = .returned (.bool true) ∧ w = w' := by
  have hq := tab_same
  go_enter Try.func35, Try.ntmps35
  go_wp2
  go_ret
  exact ⟨rfl, rfl⟩
theorem tmade_any (b m x : Nat) (I : List (Nat × Nat)) (T : TbV) (fq fp : Nat → Prop) (w : World) (h : TabH w b m x I T fq fp) :
    Calls Try.prog 35 #[.pointer (some ⟨b, 0, none⟩)] w fun e w' => e = .returned (.bool true) ∧ w = w' := tmade_self b w h.self
set_option maxHeartbeats 400000 in
theorem tmade_nil (w : World) :
    Calls Try.prog 35 #[.pointer none] w fun e w' => e = .returned (.bool false) ∧ w = w' := by
  go_enter Try.func35, Try.ntmps35
  go_wp2
  go_ret
  exact ⟨rfl, rfl⟩
set_option maxHeartbeats 400000 in
theorem tmade_zero (b : Nat) (w : World) (c0 : w.cell? ⟨b, 0, none⟩ = some (.pointer none)) :
    Calls Try.prog 35 #[.pointer (some ⟨b, 0, none⟩)] w fun e w' => e = .returned (.bool false) ∧ w = w' := by
  have hq := tab_nil
  go_enter Try.func35, Try.ntmps35
  go_wp2
  go_ret
  exact ⟨rfl, rfl⟩
set_option maxHeartbeats 400000 in
theorem fits_any (s : List UInt8) (hs : s.length ≤ 9223372036854775807) (w : World) :
    Calls Try.prog 38 #[.string (bs s)] w fun e w' => e = .returned (.bool (fitS s)) ∧ w = w' := by
  by_cases h0 : s.length = 0
  · have hn : (bs s).toList = [] := by rw [bs_toList]; exact List.length_eq_zero_iff.1 h0
    have hf : fitS s = false := by unfold fitS; rw [decide_eq_false (by omega)]; rfl
    have hsz : (bs s).size = 0 := by rw [bs_size]; exact h0
    rw [hf]
    clear hf
    go_enter Try.func38, Try.ntmps38
    go_wp2_with fail
    go_ret
    exact ⟨rfl, rfl⟩
  · have hn : ¬ (bs s).toList = [] := by rw [bs_toList]; exact fun e => h0 (by rw [e]; rfl)
    by_cases h64 : s.length ≤ 64
    · have hf : fitS s = true := by unfold fitS; rw [decide_eq_true h64, decide_eq_true (by omega)]; rfl
      have hsz : ((bs s).size : Int) ≤ 64 := by rw [bs_size]; omega
      have hem : (bs s).toList.isEmpty = false := by rw [bs_toList]; cases s with
        | nil => exact absurd rfl h0
        | cons a s => rfl
      rw [hf]
      clear hf
      go_enter Try.func38, Try.ntmps38
      go_wp2_with fail
      go_ret
      exact ⟨rfl, rfl⟩
    · have hf : fitS s = false := by unfold fitS; rw [decide_eq_false h64, Bool.and_false]
      have hsz : ¬ ((bs s).size : Int) ≤ 64 := by rw [bs_size]; omega
      have hsn : ¬ (bs s).size ≤ 64 := by rw [bs_size]; exact h64
      rw [hf]
      clear hf
      go_enter Try.func38, Try.ntmps38
      go_wp2_with fail
      go_ret
      exact ⟨rfl, rfl⟩
section
variable {ops : Array Oper} {rest : List Oper} {o : Oper} {a : Act} {w : World} {Q : Exit → Act → World → Prop} {K : Act → World → Prop}
/-- A chunk is stored. -/
theorem wpl_store_ch (hgd : o.guard = none) (x y : Operand) (ho : o.op = .store 79 x y) (b : Nat) (c : ChV) (u : Array Value) (hx : a.eval x = .pointer (some ⟨b, 0, none⟩)) (hy : a.eval y = chv c) (h : Blk w b 79 u) (hu : u.size = 3)
    (hK : ∀ w', Blk w' b 79 #[.string (bs c.s), .int .i64 c.b, .int .i64 (c.r : Nat)] → Frm (· = b) w w' → w'.heap.size = w.heap.size → wpList Try.prog ops Q rest (a.put o.dst undef) w') : wpList Try.prog ops Q (o :: rest) a w := by
  refine wpList_plain hgd fun K hK' => wp_store_row 79 x y ho b _ hx hy 79 _ h (by show _ = some 3; kernel_rfl) (by rw [hu]; rfl) (by simp [Value.oneCell']) (hK' _ _ (hK _ ?_ ?_ ?_))
  · simp only [Blk] at h
    simp only [Blk, World.setRow, Array.getElem?_modify]
    simp [h]
  · refine ⟨rfl, rfl, rfl, by simp [World.setRow], fun k _ hk => ?_⟩
    simp only [World.setRow, Array.getElem?_modify]
    rw [if_neg (fun e => hk e.symm)]
  · simp [World.setRow]
theorem wpl_look_ch (hg : o.guard = none) (m x : Operand) (hop : o.op = Op.lookup 61 m x false) (b k : Nat) (G : Nat → Option ChV) (hm : a.eval m = .map (some b)) (hx : a.eval x = .int .u32 (k : Int)) (h : MapH w b G) (hk : k ≤ 4294967295)
    (hK : wpList Try.prog ops Q rest (a.put o.dst (chv ((G k).getD zCh))) w) : wpList Try.prog ops Q (o :: rest) a w := by
  refine wpList_plain hg fun K' hK' => ?_
  have hrun := h.look k hk
  unfold Oper.wp
  simp [execOp, hop, hm, hx, hrun, Result.andThen]
  exact hK' _ _ hK
theorem wpl_lookOk_ch (hg : o.guard = none) (m x : Operand) (hop : o.op = Op.lookup 61 m x true) (b k : Nat) (G : Nat → Option ChV) (hm : a.eval m = .map (some b)) (hx : a.eval x = .int .u32 (k : Int)) (h : MapH w b G) (hk : k ≤ 4294967295)
    (hK : wpList Try.prog ops Q rest (a.put o.dst (.tuple #[chv ((G k).getD zCh), .bool (G k).isSome])) w) : wpList Try.prog ops Q (o :: rest) a w := by
  refine wpList_plain hg fun K' hK' => ?_
  have hrun := h.lookOk k hk
  unfold Oper.wp
  simp [execOp, hop, hm, hx, hrun, Result.andThen]
  exact hK' _ _ hK
/-- A chunk is dropped from a map. -/
theorem wpl_delete_ch (hg : o.guard = none) (m x : Operand) (hop : o.op = Op.call { callee := Callee.builtin Builtin.delete, args := #[m, x], argTypes := #[61, 29] }) (b k : Nat) (G : Nat → Option ChV)
    (hm : a.eval m = .map (some b)) (hx : a.eval x = .int .u32 (k : Int)) (h : MapH w b G) (hk : k ≤ 4294967295)
    (hK : ∀ w', MapH w' b (fun j => if j = k then none else G j) → Frm (· = b) w w' → w'.heap.size = w.heap.size → wpList Try.prog ops Q rest (a.put o.dst (.tuple #[])) w') : wpList Try.prog ops Q (o :: rest) a w := by
  refine wpList_plain hg fun K' hK' => ?_
  obtain ⟨w', hrun, r1, r2, r3⟩ := h.drop k hk o.type
  unfold Oper.wp
  simp [execOp, hop, resolve, invoke, builtin, hm, hx, hrun, Result.andThen]
  exact hK' _ _ (hK w' r1 r2 r3)
/-- How many chunks a map has. -/
theorem wpl_len_ch (hg : o.guard = none) (m : Operand) (hop : o.op = Op.call { callee := Callee.builtin Builtin.len, args := #[m], argTypes := #[61] }) (b : Nat) (T : TbV) (hm : a.eval m = .map (some b)) (h : MapH w b T.get) (hok : T.ok)
    (hK : wpList Try.prog ops Q rest (a.put o.dst (.int .i64 (T.L.length : Nat))) w) : wpList Try.prog ops Q (o :: rest) a w := by
  refine wpList_plain hg fun K' hK' => ?_
  have hrun := h.len (TbV.ids_nodup hok) TbV.ids_iff o.type
  rw [List.length_map] at hrun
  unfold Oper.wp
  simp [execOp, hop, resolve, invoke, builtin, hm, hrun, Result.andThen]
  exact hK' _ _ hK
/-- A chunk is laid into a map. -/
theorem wpOp_store_ch {i : Nat} (hi : ops[i]? = some o) (hg : o.guard = none) (hd : o.dst = none) (m x y : Operand) (ho : o.op = .mapUpdate 61 m x y) (b k : Nat) (c : ChV) (T : TbV)
    (hm : a.eval m = .map (some b)) (hx : a.eval x = .int .u32 (k : Int)) (hy : a.eval y = chv c) (h : MapH w b T.get) (hok : T.ok) (hk : k ≤ 4294967295) (hl : T.L.length ≤ 4294967296)
    (hK : ∀ w', MapH w' b (fun j => if j = k then some c else T.get j) → Frm (· = b) w w' → w'.heap.size = w.heap.size → K a w') : wpOp Try.prog ops Q i K a w := by
  obtain ⟨w', hrun, r1, r2, r3⟩ := h.store (TbV.ids_nodup hok) TbV.ids_iff (by rw [List.length_map]; exact hl) k hk c
  unfold wpOp
  simp only [hi]
  rw [if_pos (by unfold Region.wanted; rw [hg])]
  refine .inl ?_
  unfold Oper.wp
  simp only [execOp, ho, hm, hx, hy]
  go_simp
  exact hK w' r1 r2 r3
end
theorem ch_load {w : World} {b : Nat} {x : ChV} (h : Blk w b 79 #[.string (bs x.s), .int .i64 x.b, .int .i64 (x.r : Nat)]) : (Instr.loadAt 79 (.pointer (some ⟨b, 0, none⟩))).run Try.prog w = .ok (chv x) w := by
  refine run_loadAt_mid w b 0 79 [.string (bs x.s), .int .i64 x.b, .int .i64 (x.r : Nat)] _ ?_ Try.underlying79 rfl (by show _ = some 3; kernel_rfl)
  intro j u hj
  rw [Nat.zero_add]
  exact h.cell j (by simpa using hj)
theorem results_ch {fn : Func} {p u : Tmp} (h : fn.results = #[.cell p 79, .tmp u]) (tmps : Array Value) (w : World) (n : Nat) (x : ChV) (hp : tmps.getD p undef = .pointer (some ⟨n, 0, none⟩)) (hb : Blk w n 79 #[.string (bs x.s), .int .i64 x.b, .int .i64 (x.r : Nat)]) :
    (results fn tmps).run Try.prog w = .ok (.tuple #[chv x, tmps.getD u undef]) w := by
  rw [results_cell_tmp h, hp]
  have hl := run_loadVar_row (P := Try.prog) w n 79 79 _ _ _ hb Try.underlying79 rfl (by show _ = some 3; kernel_rfl)
  simp [asAddr, hl, Result.andThen]
set_option maxRecDepth 100000 in
set_option maxHeartbeats 1000000 in
theorem look_up_any (b i : Nat) (T : TbV) (fp : Nat → Prop) (hi : i ≤ 4294967295) (w : World) (h : TabM w b T fp) :
    Calls Try.prog 40 #[.pointer (some ⟨b, 0, none⟩), .int .u32 (i : Nat)] w fun e w' => e = .returned (.tuple #[chv ((T.get i).getD zCh), .int .i64 (if (T.get i).isSome = true then 0 else 5)]) ∧ Frm (fun _ => False) w w' := by
  obtain ⟨m, x, I, fq, h⟩ := h
  have f1 : Frm (fun _ => False) w (w.alloc (.cells #[.string ⟨#[]⟩, .int .i64 0, .int .i64 0] 79)) := (Frm.refl _ w).alloc _
  have h1 := h.keepF f1
  obtain ⟨W, hW⟩ : ∃ W, w.alloc (.cells #[.string ⟨#[]⟩, .int .i64 0, .int .i64 0] 79) = W := ⟨_, rfl⟩
  have bW : Blk W w.heap.size 79 #[.string ⟨#[]⟩, .int .i64 0, .int .i64 0] := by rw [← hW]; exact Blk.alloc w _ _
  rw [hW] at h1 f1
  have HM := Lib.hid (tmade_any b m x I T fq fp W h1)
  have c1 := h1.mc
  have F1 := Lib.hid f1
  have hnW := bW.lt
  have h0s := h.lt
  have H1 := Lib.hid h1
  have b2 := Blk.alloc W 79 #[.string ⟨#[]⟩, .int .i64 0, .int .i64 0]
  have bW2 := bW.old (.cells #[.string ⟨#[]⟩, .int .i64 0, .int .i64 0] 79)
  have F2 := Lib.hid ((Frm.refl (fun _ => False) W).alloc (.cells #[.string ⟨#[]⟩, .int .i64 0, .int .i64 0] 79))
  obtain ⟨n, hn⟩ : ∃ n, w.heap.size = n := ⟨_, rfl⟩
  rw [hn] at bW bW2 hnW
  obtain ⟨W2, hW2⟩ : ∃ W2, W.alloc (.cells #[.string ⟨#[]⟩, .int .i64 0, .int .i64 0] 79) = W2 := ⟨_, rfl⟩
  rw [hW2] at b2 bW2 F2
  obtain ⟨n2, hn2⟩ : ∃ n2, W.heap.size = n2 := ⟨_, rfl⟩
  rw [hn2] at b2 hnW
  cases hg : T.get i with
  | none =>
    have hne : n ≠ n2 := by omega
    clear h h1 f1 h0s
    go_enter Try.func40, Try.ntmps40
    go_wp2_with fail
    refine HM.out.mono ?_
    rintro e w1 ⟨rfl, rfl⟩
    go_wp2_with (first
      | (at_lookup; refine wpl_lookOk_ch rfl _ _ rfl m i T.get rfl rfl H1.out.map hi ?_; rw [hg]; simp only [Option.getD, Option.isSome])
      | (refine wpl_store_ch rfl (.tmp 6) (.tmp 19) rfl n2 zCh _ rfl rfl b2 rfl ?_; intro w3 b3 g3 s3)
      | (refine wpl_store_ch rfl (.tmp 4) (.tmp 23) rfl n zCh _ rfl rfl (bW2.keep g3 hne) rfl ?_; intro w4 b4 g4 s4; have e0 := b4.cell 0 rfl; have e1 := b4.cell 1 rfl; have e2 := b4.cell 2 rfl)
      | fail)
    (try simp only [Exit.inBlock, Exit.then])
    refine bodyPost_ret (results_ch rfl _ _ n zCh rfl b4) rfl ?_
    exact ⟨rfl, ((F1.out.trans F2.out).next g3 (fun k hk e => by omega)).next g4 (fun k hk e => by omega)⟩
  | some y =>
    have hne : n ≠ n2 := by omega
    clear h h1 f1 h0s
    go_enter Try.func40, Try.ntmps40
    go_wp2_with fail
    refine HM.out.mono ?_
    rintro e w1 ⟨rfl, rfl⟩
    go_wp2_with (first
      | (at_lookup; refine wpl_lookOk_ch rfl _ _ rfl m i T.get rfl rfl H1.out.map hi ?_; rw [hg]; simp only [Option.getD, Option.isSome])
      | (refine wpl_store_ch rfl (.tmp 6) (.tmp 19) rfl n2 y _ rfl rfl b2 rfl ?_; intro w3 b3 g3 s3; have d0 := b3.cell 0 rfl; have d1 := b3.cell 1 rfl; have d2 := b3.cell 2 rfl)
      | (refine wpl_store_ch rfl (.tmp 4) (.tmp 24) rfl n y _ rfl rfl (bW2.keep g3 hne) rfl ?_; intro w4 b4 g4 s4; have e0 := b4.cell 0 rfl; have e1 := b4.cell 1 rfl; have e2 := b4.cell 2 rfl)
      | fail)
    (try simp only [Exit.inBlock, Exit.then])
    refine bodyPost_ret (results_ch rfl _ _ n y rfl b4) rfl ?_
    exact ⟨rfl, ((F1.out.trans F2.out).next g3 (fun k hk e => by omega)).next g4 (fun k hk e => by omega)⟩
def getT : Option ChV → Value
  | none => .tuple #[.string ⟨#[]⟩, .int .i64 0, .int .i64 0, .bool false]
  | some x => .tuple #[.string (bs x.s), .int .i64 x.b, .int .i64 (x.r : Nat), .bool true]
theorem results_tmp4 {fn : Func} {t u v x : Tmp} (h : fn.results = #[.tmp t, .tmp u, .tmp v, .tmp x]) (tmps : Array Value) (P : Program) (w : World) :
    (results fn tmps).run P w = .ok (.tuple #[tmps.getD t undef, tmps.getD u undef, tmps.getD v undef, tmps.getD x undef]) w := by
  simp [results, h]
set_option maxRecDepth 100000 in
set_option maxHeartbeats 1000000 in
theorem get_any (b i : Nat) (T : TbV) (fp : Nat → Prop) (hi : i ≤ 4294967295) (w : World) (h : TabM w b T fp) :
    Calls Try.prog 30 #[.pointer (some ⟨b, 0, none⟩), .int .u32 (i : Nat)] w fun e w' => e = .returned (getT (T.get i)) ∧ Frm (fun _ => False) w w' := by
  have hl := look_up_any b i T fp hi w h
  obtain ⟨y, er, ok, hy, hC⟩ : ∃ (y : ChV) (er : Nat) (ok : Bool), (getT (T.get i) = .tuple #[.string (bs y.s), .int .i64 y.b, .int .i64 (y.r : Nat), .bool ok] ∧ ((er : Int) == 0) = ok) ∧ Calls Try.prog 40 #[.pointer (some ⟨b, 0, none⟩), .int .u32 (i : Nat)] w fun e w' => e = .returned (.tuple #[chv y, .int .i64 (er : Nat)]) ∧ Frm (fun _ => False) w w' := by
    cases hg : T.get i with
    | none => rw [hg] at hl; exact ⟨zCh, 5, false, ⟨rfl, rfl⟩, hl⟩
    | some y => rw [hg] at hl; exact ⟨y, 0, true, ⟨rfl, rfl⟩, hl⟩
  obtain ⟨hy, he⟩ := hy
  rw [hy]
  have HC := Lib.hid hC
  clear hy hC hl h
  go_enter Try.func30, Try.ntmps30
  go_wp2_with fail
  refine HC.out.mono ?_
  rintro e w1 ⟨rfl, g1⟩
  have b1 := Blk.alloc w1 79 #[.string ⟨#[]⟩, .int .i64 0, .int .i64 0]
  have G1 := Lib.hid (g1.alloc (.cells #[.string ⟨#[]⟩, .int .i64 0, .int .i64 0] 79))
  have hs1 := g1.size
  clear g1
  go_wp2_with (first
    | (refine wpl_store_ch rfl (.tmp 8) (.tmp 14) rfl w1.heap.size y _ rfl rfl b1 rfl ?_; intro w3 b3 g3 s3; have d0 := b3.cell 0 rfl; have d1 := b3.cell 1 rfl; have d2 := b3.cell 2 rfl)
    | fail)
  go_quiet (fail)
  go_wp2_with fail
  (try simp only [Exit.inBlock, Exit.then])
  refine bodyPost_ret (results_tmp4 rfl _ _ _) rfl ?_
  exact ⟨rfl, (G1.out.next g3 (fun k hk e => by omega)).drewN _⟩
set_option maxRecDepth 100000 in
set_option maxHeartbeats 1000000 in
theorem tcount_any (b : Nat) (T : TbV) (fp : Nat → Prop) (w : World) (h : TabM w b T fp) :
    Calls Try.prog 31 #[.pointer (some ⟨b, 0, none⟩)] w fun e w' => e = .returned (.int .i64 (T.L.length : Nat)) ∧ w = w' := by
  obtain ⟨m, x, I, fq, h⟩ := h
  have HM := Lib.hid (tmade_any b m x I T fq fp w h)
  have H := Lib.hid h
  have c1 := h.mc
  clear h
  go_enter Try.func31, Try.ntmps31
  go_wp2_with fail
  refine HM.out.mono ?_
  rintro e w1 ⟨rfl, rfl⟩
  go_wp2_with (first
    | (at_len; refine wpl_len_ch rfl _ rfl m T rfl H.out.map H.out.ok ?_)
    | fail)
  go_ret
  exact ⟨rfl, rfl⟩
set_option maxRecDepth 100000 in
set_option maxHeartbeats 1000000 in
theorem tnext_any (b : Nat) (T : TbV) (fp : Nat → Prop) (w : World) (h : TabM w b T fp) :
    Calls Try.prog 26 #[.pointer (some ⟨b, 0, none⟩)] w fun e w' => e = .returned (.int .u32 (T.nx : Nat)) ∧ w = w' := by
  obtain ⟨m, x, I, fq, h⟩ := h
  have HM := Lib.hid (tmade_any b m x I T fq fp w h)
  have c1 := h.nc
  clear h
  go_enter Try.func26, Try.ntmps26
  go_wp2_with fail
  refine HM.out.mono ?_
  rintro e w1 ⟨rfl, rfl⟩
  go_wp2_with fail
  go_ret
  exact ⟨rfl, rfl⟩
theorem TabH.skip {w : World} {b m x : Nat} {I : List (Nat × Nat)} {T : TbV} {fq fp : Nat → Prop} (h : TabH w b m x I T fq fp) {n : Nat} (hn : T.nx ≤ n) (hn2 : n ≤ 4294967295) :
    TabH (w.setCell ⟨b, 3, none⟩ (.int .u32 (n : Nat))) b m x I ⟨T.L, n⟩ fq fp ∧ Frm (· = b) w (w.setCell ⟨b, 3, none⟩ (.int .u32 (n : Nat))) := by
  have f : Frm (· = b) w (w.setCell ⟨b, 3, none⟩ (.int .u32 (n : Nat))) := (Frm.refl (· = b) w).setCell (p := ⟨b, 3, none⟩) (fun _ => rfl) _
  have h1 := h.ok.n1
  refine ⟨⟨h.blk.set 3 _, h.map.keep f (fun e => h.bm e.symm), h.idx.keep f (fun k hk e => h.qb (e ▸ hk)), h.ix, ⟨h.ok.up, h.ok.ds, h.ok.ch, fun y hy => Nat.lt_of_lt_of_le (h.ok.lt y hy) hn, by show 1 ≤ n; omega, hn2⟩, h.bm, h.qb, h.qm, h.fb, h.fm, h.fx, fun k hk => Nat.lt_of_lt_of_le (h.lt k hk) f.size⟩, f⟩
set_option maxRecDepth 100000 in
set_option maxHeartbeats 1000000 in
theorem tskip_any (b n : Nat) (T : TbV) (fp : Nat → Prop) (hn : n ≤ 4294967295) (w : World) (h : TabM w b T fp) :
    Calls Try.prog 15 #[.pointer (some ⟨b, 0, none⟩), .int .u32 (n : Nat)] w fun e w' => e = .returned (.tuple #[]) ∧ TabM w' b (T.skip n) fp ∧ Frm fp w w' ∧ w'.heap.size = w.heap.size := by
  obtain ⟨m, x, I, fq, h⟩ := h
  have HM := Lib.hid (tmade_any b m x I T fq fp w h)
  have c1 := h.nc
  have fr := h.blk.free 3
  by_cases hlt : T.nx < n
  · have he : T.skip n = ⟨T.L, n⟩ := if_pos hlt
    have HE := Lib.hid (h.skip (Nat.le_of_lt hlt) hn)
    have hfb := h.fb
    have hz : (T.nx : Int) < (n : Int) := by omega
    have hz2 : ¬ (n : Int) < (T.nx : Int) := by omega
    rw [he]
    clear h he hlt
    go_enter Try.func15, Try.ntmps15
    go_wp2_with fail
    refine HM.out.mono ?_
    rintro e w1 ⟨rfl, rfl⟩
    go_wp2_with fail
    go_end0
    exact ⟨rfl, ⟨m, x, I, fq, HE.out.1⟩, HE.out.2.mono (fun k _ e => by rw [e]; exact hfb), by simp [World.setCell]⟩
  · have he : T.skip n = T := if_neg hlt
    have HE := Lib.hid (h.skip (Nat.le_refl _) h.ok.n2)
    have hfb := h.fb
    have hz : ¬ (T.nx : Int) < (n : Int) := by omega
    have hz2 : (n : Int) ≤ (T.nx : Int) := by omega
    rw [he]
    clear h he hlt
    go_enter Try.func15, Try.ntmps15
    go_wp2_with fail
    refine HM.out.mono ?_
    rintro e w1 ⟨rfl, rfl⟩
    go_wp2_with fail
    go_end0
    exact ⟨rfl, ⟨m, x, I, fq, HE.out.1⟩, HE.out.2.mono (fun k _ e => by rw [e]; exact hfb), by simp [World.setCell]⟩
end Go.Proofs.Ytjodkgbpbibfbaa
