/- What puts a chunk into a table, what finds one by its data. No condition. -/
import Derived.Test.YtjodkgbpbibfbaaDdB
import Derived.Test.YtjodkgbpbibfbaaCanonQ
import Derived.Test.YtjodkgbpbibfbaaCanonT
import Derived.Test.YtjodkgbpbibfbaaRel
import Derived.Deep.RegionHeld3
import Derived.Shelf.RegionOpen
namespace Go.Proofs.Ytjodkgbpbibfbaa
open Go.RowKit

/-- A region's operation is a call. -/
theorem wpOp_callC {ops : Array Oper} {Q : Exit → Act → World → Prop} {K : Act → World → Prop} {i : Nat} {o : Oper} {a : Act} {W : World} {f : FuncId} {args : Array Value} {e : Tmp} (hi : ops[i]? = some o) (hd : o.dst = some e) (hw : Region.wanted o (yielded ops a.tmps) = true)
    (h : (execOp a.eval o).run Try.prog W = .ok (.enter f args) W) (hc : Calls Try.prog f args W fun e' W' => ∃ u, e' = .returned u ∧ K (a.put (some e) u) W') : wpOp Try.prog ops Q i K a W :=
  OpOK.wpOp (K := fun u W' => K (a.put (some e) u) W') hi (.inl ⟨hw, by rw [h]; exact hc⟩) fun _ _ h => by rw [hd]; exact h
set_option maxRecDepth 100000 in
/-- The data of a chunk that was looked up. -/
theorem wpl_field_ch {ops : Array Oper} {rest : List Oper} {o : Oper} {a : Act} {w : World} {Q : Exit → Act → World → Prop} (hg : o.guard = none) (x : Operand) (hop : o.op = Op.field 79 x 0) (c : ChV) (hx : a.eval x = chv c)
    (hK : wpList Try.prog ops Q rest (a.put o.dst (.string (bs c.s))) w) : wpList Try.prog ops Q (o :: rest) a w := by
  refine wpList_plain hg fun K' hK' => ?_
  unfold Oper.wp
  simp only [execOp, hop, hx]
  go_simp
  exact hK' _ _ hK
def fidT : Option Nat → Value
  | none => .tuple #[.int .u32 0, .bool false]
  | some i => .tuple #[.int .u32 (i : Nat), .bool true]
theorem bs_beqT (a b : List UInt8) : ((bs a).toList == (bs b).toList) = decide (a = b) := by
  rw [bs_toList, bs_toList]
  rw [Bool.eq_iff_iff]; simp
set_option maxRecDepth 100000 in
set_option maxHeartbeats 2000000 in
theorem tfind_any (b : Nat) (s : List UInt8) (T : TbV) (fp : Nat → Prop) (hs : s.length ≤ 9223372036854775807) (hl : T.L.length ≤ 900000) (w : World) (h : TabM w b T fp) :
    Calls Try.prog 20 #[.pointer (some ⟨b, 0, none⟩), .string (bs s)] w fun e w' => e = .returned (fidT (T.fid s)) ∧ Frm (fun _ => False) w w' := by
  obtain ⟨m, x, I, fq, h⟩ := h
  have HM := Lib.hid (tmade_any b m x I T fq fp w h)
  have hll : (sel I (bk s)).length ≤ 900000 := Nat.le_trans (sel_len I _) (by rw [h.ix.len]; exact hl)
  have HF := Lib.hid (find_any x s (sel I) fq w h.idx hs (by omega))
  have hmem := fun i => h.ix.mem (bk s) i
  have hok := h.ok
  have c2 := h.xc
  have H := Lib.hid h
  obtain ⟨l, hle⟩ : ∃ l, sel I (bk s) = l := ⟨_, rfl⟩
  simp only [hle] at HF hmem hll
  have hget : ∀ k (hk : k < l.length), ∃ c, T.get l[k] = some c := fun k hk => by
    obtain ⟨c, hc, e, _⟩ := (hmem l[k]).1 (List.getElem_mem hk)
    exact ⟨c, by rw [← e]; exact TbV.get_of hok hc⟩
  have hyes : ∀ k (hk : k < l.length) c, T.get l[k] = some c → c.s = s → T.fid s = some l[k] := fun k hk c hc e => by
    obtain ⟨h1, h2⟩ := TbV.get_some hc
    exact (TbV.fid_iff hok _ _).2 ⟨c, h1, e, h2⟩
  have hno : (∀ k (hk : k < l.length) c, T.get l[k] = some c → c.s ≠ s) → T.fid s = none := fun hn => by
    cases e : T.fid s with
    | none => rfl
    | some i =>
      obtain ⟨c, h1, h2, h3⟩ := (TbV.fid_iff hok _ _).1 e
      obtain ⟨k, hk, e2⟩ := List.getElem_of_mem ((hmem i).2 ⟨c, h1, h3, by rw [h2]⟩)
      exact absurd h2 (hn k hk c (by rw [e2, ← h3]; exact TbV.get_of hok h1))
  have hi : ∀ k (hk : k < l.length), l[k] ≤ 4294967295 := fun k hk => by
    obtain ⟨c, hc, e, _⟩ := (hmem l[k]).1 (List.getElem_mem hk)
    have := (hok.ch c hc).i2
    omega
  have HG := Lib.hid hget
  have HY := Lib.hid hyes
  have HN := Lib.hid hno
  have HI := Lib.hid hi
  clear hget hyes hno hi hmem hle h hok
  obtain ⟨B, hB⟩ : ∃ B, T.fid s = B := ⟨_, rfl⟩
  simp only [hB] at HY HN ⊢
  clear hB
  go_enter Try.func20, Try.ntmps20
  go_wp2_with fail
  refine HM.out.mono ?_
  rintro e w1 ⟨rfl, rfl⟩
  go_wp2_with fail
  refine HF.out.mono ?_
  rintro e w1 ⟨v', rfl, ho, g1, _⟩
  obtain ⟨a, cap, rfl, hc1, hc2⟩ := Row.slice ho
  unfold maxLen at hc2
  have HO := Lib.hid ho
  have H1 := Lib.hid (H.out.keepF g1)
  have G1 := Lib.hid g1
  clear ho g1 c2
  have c1 := H1.out.mc
  go_wp2_with fail
  go_loop [18] (fun j => ∃ k : Nat, k ≤ l.length ∧ j = .int .i64 (k : Nat) ∧ ∀ q (hq : q < l.length), q < k → ∀ c, T.get l[q] = some c → c.s ≠ s) (fun j => l.length - (intOf j).toNat)
  case atStart => exact ⟨0, Nat.zero_le _, rfl, fun q _ h => by omega⟩
  case round =>
    obtain ⟨k, hk, rfl, hno⟩ := hrel
    by_cases hlt : k < l.length
    · have hki : (k : Int) < (l.length : Int) := by omega
      have hk0 : (0 : Int) ≤ (k : Int) := by omega
      obtain ⟨g, off, rfl, _, d0⟩ := HO.out.ids.at k hlt
      obtain ⟨c, hc⟩ := HG.out k hlt
      have hbe := bs_beqT c.s s
      have hil := HI.out k hlt
      obtain ⟨y, hy⟩ : ∃ y, l[k] = y := ⟨_, rfl⟩
      by_cases he : c.s = s
      · have HB := Lib.hid (HY.out k hlt c hc he)
        rw [decide_eq_true he] at hbe
        rw [hy] at hc d0 HB hil
        clear he hno
        go_wp2_with (first
          | (at_lookup; refine wpl_look_ch rfl _ _ rfl m y T.get rfl rfl H1.out.map hil ?_; rw [hc]; simp only [Option.getD])
          | (refine wpl_field_ch rfl (.tmp 27) rfl c rfl ?_)
          | fail)
        go_ret2
        exact ⟨by rw [HB.out]; rfl, G1.out⟩
      · rw [decide_eq_false he] at hbe
        have HNO := Lib.hid (show ∀ q (hq : q < l.length), q < k + 1 → ∀ c, T.get l[q] = some c → c.s ≠ s from fun q hq hqk c' hc' => by
          by_cases e : q = k
          · subst e
            rw [hc] at hc'
            cases hc'
            exact he
          · exact hno q hq (by omega) c' hc')
        rw [hy] at hc d0 hil
        clear he hno
        go_wp2_with (first
          | (at_lookup; refine wpl_look_ch rfl _ _ rfl m y T.get rfl rfl H1.out.map hil ?_; rw [hc]; simp only [Option.getD])
          | (refine wpl_field_ch rfl (.tmp 27) rfl c rfl ?_)
          | fail)
        go_round
        case rel => exact ⟨k + 1, by omega, by go_num, HNO.out⟩
        case measure => simp [intOf]; omega
    · have HB := Lib.hid (HN.out fun q hq => hno q hq (by omega))
      have hkn : ¬ (k : Int) < (l.length : Int) := by omega
      clear hno
      go_wp2_with fail
      go_ret2
      exact ⟨by rw [HB.out]; rfl, G1.out⟩
set_option maxRecDepth 100000 in
theorem thas_any (b : Nat) (s : List UInt8) (T : TbV) (fp : Nat → Prop) (hs : s.length ≤ 9223372036854775807) (hl : T.L.length ≤ 900000) (w : World) (h : TabM w b T fp) :
    Calls Try.prog 39 #[.pointer (some ⟨b, 0, none⟩), .string (bs s)] w fun e w' => e = .returned (.bool (T.find s).isSome) ∧ Frm (fun _ => False) w w' := by
  have hF := tfind_any b s T fp hs hl w h
  have hok := h.ok
  have e : ∃ i, fidT (T.fid s) = .tuple #[.int .u32 (i : Nat), .bool (T.find s).isSome] := by
    rw [TbV.fid_find hok]
    cases e : T.find s with
    | none => exact ⟨0, rfl⟩
    | some k =>
      obtain ⟨hk, _⟩ := TbV.find_some e
      refine ⟨T.L[k].id, ?_⟩
      show fidT ((T.L[k]?).map ChV.id) = _
      rw [List.getElem?_eq_getElem hk]
      rfl
  obtain ⟨i, e⟩ := e
  rw [e] at hF
  have HF := Lib.hid hF
  clear hF e h hok
  go_enter Try.func39, Try.ntmps39
  go_wp2_with fail
  refine HF.out.mono ?_
  rintro e w1 ⟨rfl, g1⟩
  go_wp2_with fail
  go_ret
  exact ⟨rfl, g1⟩
set_option maxRecDepth 100000 in
set_option maxHeartbeats 1000000 in
/-- Skip, of a table that may not be in order. -/
theorem tskip_raw (b m n nx : Nat) (v : Value) (w : World) (h : Blk w b 64 #[.pointer (some ⟨b, 0, none⟩), .map (some m), v, .int .u32 (nx : Nat)]) :
    Calls Try.prog 15 #[.pointer (some ⟨b, 0, none⟩), .int .u32 (n : Nat)] w fun e w' => e = .returned (.tuple #[]) ∧ w' = w.setCell ⟨b, 3, none⟩ (.int .u32 ((if nx < n then n else nx : Nat) : Int)) := by
  have HM := Lib.hid (tmade_self b w (h.cell 0 rfl))
  have c1 := h.cell 3 rfl
  have fr := h.free 3
  by_cases hlt : nx < n
  · have hz : (nx : Int) < (n : Int) := by omega
    have hz2 : ¬ (n : Int) < (nx : Int) := by omega
    rw [if_pos hlt]
    clear h hlt
    go_enter Try.func15, Try.ntmps15
    go_wp2_with fail
    refine HM.out.mono ?_
    rintro e w1 ⟨rfl, rfl⟩
    go_wp2_with fail
    go_end0
    exact ⟨rfl, rfl⟩
  · have hz : ¬ (nx : Int) < (n : Int) := by omega
    have hz2 : (n : Int) ≤ (nx : Int) := by omega
    rw [if_neg hlt]
    clear h hlt
    go_enter Try.func15, Try.ntmps15
    go_wp2_with fail
    refine HM.out.mono ?_
    rintro e w1 ⟨rfl, rfl⟩
    go_wp2_with fail
    go_end0
    exact ⟨rfl, rfl⟩
end Go.Proofs.Ytjodkgbpbibfbaa
