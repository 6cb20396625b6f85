/- What the putting of var numbers and of texts does. -/
import Derived.Test.YtdhnidmeeocajaaGreatCodecP
import Derived.Test.YtdhnidmeeocajaaGreatCodecV
import Derived.Deep.RegionWith
import Derived.Deep.QuietTactic
import Derived.BigQuiet
import Derived.Test.YtdhnidmeeocajaaGreatRgA
import Derived.LoopN
section
namespace Go.Proofs.YtdhnidmeeocajaaGreat
open Go.RowKit Go.Shelf
attribute [local go_sem] Oper.semAt_some

theorem OwnFrom.up {β : Type} {B B' : Nat} {I : β → World → Prop} (h : OwnFrom B I) (hB : B ≤ B') : OwnFrom B' I := fun s W W' row hs hg hr => h s W W' row hs hg fun r e => ⟨Nat.le_trans hB (hr r e).1, (hr r e).2⟩

theorem Wr.isC {w : World} {b : Nat} {s : List UInt8} {fp : List Nat} (h : Wr w b s fp) : ∀ k o, k ∈ fp → w.heap[k]? = some o → o.isCells = true := by
  intro k o hk ho
  rcases h.2 with ⟨_, rfl, hb⟩ | ⟨p, v, rfl, hb, hp, hr, _⟩
  · obtain rfl : k = b := by simpa using hk
    exact hb.isCells _ o rfl ho
  · rcases List.mem_cons.1 hk with rfl | hk
    · exact hb.isCells _ o rfl ho
    · rcases List.mem_cons.1 hk with rfl | hk
      · exact hp.isCells _ o rfl ho
      · obtain ⟨o', ho', hc⟩ := hr.isC k (by simpa using hk)
        rw [ho] at ho'
        cases ho'
        exact hc
theorem Wr.turned {w w' : World} {b : Nat} {s : List UInt8} {fp : List Nat} {row : Option Nat} (h : Wr w b s fp) (hg : w.grownBy w' row) (hr : ∀ r, row = some r → ∃ o : Obj, w.heap[r]? = some o ∧ o.isCells = false) : Wr w' b s fp := by
  refine h.keep (X := fun k => row = some k) ((Frm.refl _ w).grown hg fun k _ e => e) fun k hk e => ?_
  obtain ⟨o, ho, hc⟩ := hr k e
  rw [h.isC k o hk ho] at hc
  cases hc

/-- How a call that writes ends: the writer has s, its own blocks are elder ones of its own and new ones. -/
def WrTo (b : Nat) (s : List UInt8) (fp : List Nat) (w : World) (e : Ending) (W : World) : Prop :=
  e = .returned (.tuple #[]) ∧ ∃ fp', Wr W b s fp' ∧ Frm (· ∈ fp) w W ∧ ∀ k ∈ fp', k ∈ fp ∨ w.heap.size ≤ k
theorem wu8_any (b : Nat) (s : List UInt8) (fp : List Nat) (n : Nat) (hn : n < 256) (w : World) (h : Wr w b s fp) (hl : s.length + 4 ≤ 70368744177664) :
    Calls Tryz.prog 121 #[.pointer (some ⟨b, 0, none⟩), .int .u8 n] w (WrTo b (s ++ beB 1 n) fp w) :=
  w_u8 _ n hn w _ fun w' hf => (raw_of b s (beB 1 n) fp w h (by rw [beB_len]; omega) w' hf).mono fun _ _ ⟨a1, a2⟩ => ⟨a1, a1, a2⟩
theorem wu16_any (b : Nat) (s : List UInt8) (fp : List Nat) (n : Nat) (hn : n < 65536) (w : World) (h : Wr w b s fp) (hl : s.length + 4 ≤ 70368744177664) :
    Calls Tryz.prog 120 #[.pointer (some ⟨b, 0, none⟩), .int .u16 n] w (WrTo b (s ++ beB 2 n) fp w) :=
  w_u16 _ n hn w _ fun w' hf => (raw_of b s (beB 2 n) fp w h (by rw [beB_len]; omega) w' hf).mono fun _ _ ⟨a1, a2⟩ => ⟨a1, a1, a2⟩
theorem wu32_any (b : Nat) (s : List UInt8) (fp : List Nat) (n : Nat) (hn : n < 4294967296) (w : World) (h : Wr w b s fp) (hl : s.length + 4 ≤ 70368744177664) :
    Calls Tryz.prog 94 #[.pointer (some ⟨b, 0, none⟩), .int .u32 n] w (WrTo b (s ++ beB 4 n) fp w) :=
  w_u32 _ n hn w _ fun w' hf => (raw_of b s (beB 4 n) fp w h (by rw [beB_len]; omega) w' hf).mono fun _ _ ⟨a1, a2⟩ => ⟨a1, a1, a2⟩
/-- A writer of a law's own, behind some writing. -/
structure Own1 (w W : World) (b : Nat) (s : List UInt8) : Prop where
  wr : ∃ fp, Wr W b s fp ∧ ∀ k ∈ fp, w.heap.size ≤ k
  frm : Frm (fun _ => False) w W
theorem Own1.step {w W W' : World} {b : Nat} {t : List UInt8} {fp : List Nat} {e : Ending} (hf : Frm (fun _ => False) w W) (hfp : ∀ k ∈ fp, w.heap.size ≤ k) (h : WrTo b t fp W e W') : e = .returned (.tuple #[]) ∧ Own1 w W' b t := by
  obtain ⟨rfl, fp', h1, h2, h3⟩ := h
  exact ⟨rfl, ⟨fp', h1, fun k hk => (h3 k hk).elim (hfp k) fun e => Nat.le_trans hf.size e⟩, hf.next h2 fun k hk hY => by have := hfp k hY; omega⟩
end Go.Proofs.YtdhnidmeeocajaaGreat
end
section
namespace Go.Proofs.YtdhnidmeeocajaaGreat
open Go.RowKit

set_option maxHeartbeats 400000 in
theorem cread_any (l : List UInt8) (w : World) (hl : l.length ≤ 140737488355328) :
    Calls Tryz.prog 99 #[.string (bs l)] w fun e w' => e = .returned (.pointer (some ⟨w.heap.size, 0, none⟩)) ∧ Rd w' w.heap.size l 0 ∧ Frm (fun _ => False) w w' := by
  go_enter Tryz.func99, Tryz.ntmps99
  go_wp2
  go_ret
  exact ⟨rfl, ⟨Blk.alloc w _ _, hl, by omega⟩, (Frm.refl _ w).alloc _⟩

theorem Frm.new {w w1 w2 : World} {X Y : Nat → Prop} (h : Frm X w w1) (h' : Frm Y w1 w2) (hy : ∀ k, Y k → w.heap.size ≤ k) : Frm X w w2 := h.next h' fun k hk hY => by have := hy k hY; omega

end Go.Proofs.YtdhnidmeeocajaaGreat
end
section
namespace Go.Proofs.YtdhnidmeeocajaaGreat
open Go.RowKit
/-- Something that is written, or read. -/
structure Item where
  k : Nat
  n : Nat
  s : List UInt8
/-- The slice value v reads as these items. -/
def It (w : World) (v : Value) (L : List Item) : Prop :=
  ∃ a cap, v = .slice a L.length cap ∧ L.length ≤ cap ∧ cap ≤ maxLen ∧ ∀ i (h : i < L.length), ∃ b off, a = some ⟨b, off, none⟩ ∧ b < w.heap.size ∧
    w.cell? ⟨b, off + i * 3, none⟩ = some (.int .u8 L[i].k) ∧ w.cell? ⟨b, off + i * 3 + 1, none⟩ = some (.int .u32 L[i].n) ∧ w.cell? ⟨b, off + i * 3 + 2, none⟩ = some (.string (bs L[i].s)) ∧
    L[i].k < 256 ∧ L[i].n < 4294967296 ∧ L[i].s.length ≤ 9223372036854775807
theorem It.keep {X : Nat → Prop} {w w' : World} {v : Value} {L : List Item} (h : It w v L) (hf : Frm X w w') (hn : ∀ k, k < w.heap.size → ¬ X k) : It w' v L := by
  obtain ⟨a, cap, hv, h1, h2, h3⟩ := h
  refine ⟨a, cap, hv, h1, h2, fun i hi => ?_⟩
  obtain ⟨b, off, ha, hb, c0, c1, c2, r⟩ := h3 i hi
  have e := hf.block b hb (hn b hb)
  have ec : ∀ j, w'.cell? ⟨b, j, none⟩ = w.cell? ⟨b, j, none⟩ := fun j => World.cell?_of_block (a := ⟨b, j, none⟩) e
  exact ⟨b, off, ha, Nat.lt_of_lt_of_le hb hf.size, by rw [ec]; exact c0, by rw [ec]; exact c1, by rw [ec]; exact c2, r⟩

theorem mod8a (n : Nat) : (n : Int) % 256 = ((n % 256 : Nat) : Int) := by omega
end Go.Proofs.YtdhnidmeeocajaaGreat
end
section
namespace Go.Proofs.YtdhnidmeeocajaaGreat
open Go.RowKit
set_option maxHeartbeats 400000 in
theorem ru8_any (b : Nat) (l : List UInt8) (e : Nat) (w : World) (h : Rd w b l e) :
    Calls Tryz.prog 127 #[.pointer (some ⟨b, 0, none⟩)] w fun r w' => r = .returned (.int .u8 (numS 1 l e).1) ∧ Rd w' b (numS 1 l e).2.1 (numS 1 l e).2.2 ∧ Frm (· = b) w w' := by
  go_enter Tryz.func127, Tryz.ntmps127
  go_wp2_with (go_at_call 142; refine (take_u8 b l e _ h).mono ?_; rintro r w' ⟨rfl, h1, h2⟩)
  go_ret
  exact ⟨rfl, h1, h2⟩
set_option maxHeartbeats 400000 in
theorem ru16_any (b : Nat) (l : List UInt8) (e : Nat) (w : World) (h : Rd w b l e) :
    Calls Tryz.prog 126 #[.pointer (some ⟨b, 0, none⟩)] w fun r w' => r = .returned (.int .u16 (numS 2 l e).1) ∧ Rd w' b (numS 2 l e).2.1 (numS 2 l e).2.2 ∧ Frm (· = b) w w' := by
  go_enter Tryz.func126, Tryz.ntmps126
  go_wp2_with (go_at_call 141; refine (take_u16 b l e _ h).mono ?_; rintro r w' ⟨rfl, h1, h2⟩)
  go_ret
  exact ⟨rfl, h1, h2⟩
set_option maxHeartbeats 400000 in
theorem ru32_any (b : Nat) (l : List UInt8) (e : Nat) (w : World) (h : Rd w b l e) :
    Calls Tryz.prog 100 #[.pointer (some ⟨b, 0, none⟩)] w fun r w' => r = .returned (.int .u32 (numS 4 l e).1) ∧ Rd w' b (numS 4 l e).2.1 (numS 4 l e).2.2 ∧ Frm (· = b) w w' := by
  go_enter Tryz.func100, Tryz.ntmps100
  go_wp2_with (go_at_call 123; refine (take_u32 b l e _ h).mono ?_; rintro r w' ⟨rfl, h1, h2⟩)
  go_ret
  exact ⟨rfl, h1, h2⟩
end Go.Proofs.YtdhnidmeeocajaaGreat
end
section
namespace Go.Proofs.YtdhnidmeeocajaaGreat
open Go.RowKit
/-- The document's reader: the text that it reads, what is left, and its error. -/
def Rq (w : World) (b : Nat) (s l : List UInt8) (e : Nat) : Prop :=
  ∃ a : Nat, Blk w b 126 #[.string (bs s), .int .i64 a, .int .i64 e] ∧ a ≤ s.length ∧ s.length ≤ 140737488355328 ∧ e ≤ 17 ∧ (e = 0 → l = s.drop a) ∧ (e ≠ 0 → l = [])
theorem Rq.keep {X : Nat → Prop} {w w' : World} {b : Nat} {s l : List UInt8} {e : Nat} (h : Rq w b s l e) (hf : Frm X w w') (hn : ¬ X b) : Rq w' b s l e := by
  obtain ⟨a, h1, h2⟩ := h
  exact ⟨a, h1.keep hf hn, h2⟩
theorem Rq.lt {w : World} {b : Nat} {s l : List UInt8} {e : Nat} (h : Rq w b s l e) : b < w.heap.size := by
  obtain ⟨a, h1, _⟩ := h
  exact h1.lt
theorem Rq.inv {w : World} {b : Nat} {s l : List UInt8} {e : Nat} (h : Rq w b s l e) : e ≠ 0 → l = [] := by
  obtain ⟨a, _, _, _, _, _, h2⟩ := h
  exact h2
theorem bs_part (l : List UInt8) (i j : Nat) : (bs l).extract i j = bs ((l.take j).drop i) := by
  apply ByteArray.ext
  simp only [ByteArray.data_extract]
  apply Array.ext'
  simp [bs, List.drop_take]

set_option maxRecDepth 100000 in
set_option maxHeartbeats 400000 in
theorem q_fixed_none (b : Nat) (s l : List UInt8) (e : Nat) (n : Int) (w : World) (h : Rq w b s l e) (hn : e ≠ 0 ∨ n ≤ 0) :
    Calls Tryz.prog 114 #[.pointer (some ⟨b, 0, none⟩), .int .i64 n] w fun r w' => r = .returned (.string (bs [])) ∧ w = w' := by
  obtain ⟨a, hb, h1, h2, h3, h4, h5⟩ := h
  have c2 := hb.cell 2 rfl
  by_cases he : e = 0
  · subst he
    have hn' : n ≤ 0 := hn.resolve_left (fun h => h rfl)
    clear h4 h5 hn
    go_enter Tryz.func114, Tryz.ntmps114
    go_wp2
    go_ret
    exact ⟨rfl, rfl⟩
  · have he' : ((e : Int) != 0) = true := by simpa using he
    clear h4 h5 hn
    go_enter Tryz.func114, Tryz.ntmps114
    go_wp2
    go_ret
    exact ⟨rfl, rfl⟩

set_option maxRecDepth 100000 in
set_option maxHeartbeats 400000 in
theorem q_fixed_torn (b : Nat) (s l : List UInt8) (n : Nat) (w : World) (h : Rq w b s l 0) (hn : l.length < n) (hn3 : n ≤ 9223372036854775807) :
    Calls Tryz.prog 114 #[.pointer (some ⟨b, 0, none⟩), .int .i64 n] w fun r w' => r = .returned (.string (bs [])) ∧ Rq w' b s [] 10 ∧ Frm (· = b) w w' := by
  obtain ⟨a, hb, h1, h2, h3, h4, h5⟩ := h
  have c0 := hb.cell 0 rfl
  have c1 := hb.cell 1 rfl
  have c2 := hb.cell 2 rfl
  have f2 := hb.free 2
  rw [h4 rfl, List.length_drop] at hn
  have hz1 : a ≤ (bs s).size := h1
  have hz2 : (bs s).size ≤ 140737488355328 := h2
  have hn1 : (bs s).size - a < n := hn
  have h0 : 0 < n := by omega
  clear h4 h5
  go_enter Tryz.func114, Tryz.ntmps114
  go_wp2_with fail
  have hw1 : IntKind.i64.wrap (((bs s).size : Int) - a) = ((bs s).size : Int) - a := IntWalk.i64_in _ (by omega)
  have ht1 : decide (((bs s).size : Int) - a < n) = true := decide_eq_true (by omega)
  go_quiet (fail)
  clear hw1
  go_wp2_with fail
  go_ret
  exact ⟨rfl, ⟨a, (hb.drewN _).set 2 (.int .i64 10), h1, h2, by omega, by simp, fun _ => rfl⟩, ((Frm.refl _ w).drewN _).trans (Frm.one _ _ _ _)⟩

set_option maxRecDepth 100000 in
set_option maxHeartbeats 400000 in
theorem q_fixed_ok (b : Nat) (s l : List UInt8) (n : Nat) (w : World) (h : Rq w b s l 0) (hn : n ≤ l.length) (h0 : 0 < n) :
    Calls Tryz.prog 114 #[.pointer (some ⟨b, 0, none⟩), .int .i64 n] w fun r w' => r = .returned (.string (bs (l.take n))) ∧ Rq w' b s (l.drop n) 0 ∧ Frm (· = b) w w' := by
  obtain ⟨a, hb, h1, h2, h3, h4, h5⟩ := h
  have c0 := hb.cell 0 rfl
  have c1 := hb.cell 1 rfl
  have c2 := hb.cell 2 rfl
  have f1 := hb.free 1
  have hl := h4 rfl
  have Hl := Lib.hid hl
  rw [hl, List.length_drop] at hn
  have hz1 : a ≤ (bs s).size := h1
  have hz2 : (bs s).size ≤ 140737488355328 := h2
  have hn1 : n ≤ (bs s).size - a := hn
  clear h4 h5 hl
  go_enter Tryz.func114, Tryz.ntmps114
  go_wp2_with fail
  have hw1 : IntKind.i64.wrap (((bs s).size : Int) - a) = ((bs s).size : Int) - a := IntWalk.i64_in _ (by omega)
  have ht1 : decide (((bs s).size : Int) - a < n) = false := decide_eq_false (by omega)
  go_quiet (fail)
  clear hw1
  go_wp2_with fail
  go_quiet (fail)
  go_wp2_with fail
  go_ret
  refine ⟨ret_str ?_, ⟨a + n, ?_, by omega, h2, by omega, fun _ => by rw [Hl.out, List.drop_drop], fun h => absurd rfl h⟩, (((Frm.refl _ w).drewN _).trans (Frm.one _ _ _ _)).drewN _⟩
  · rw [bs_part, Hl.out, List.drop_take]; congr 2; omega
  · exact ((hb.drewN _).set 1 (.int .i64 ((a : Int) + n))).drewN _
theorem q_fixed (b : Nat) (s l : List UInt8) (e n : Nat) (w : World) (h : Rq w b s l e) (hn : n ≤ 9223372036854775807) :
    Calls Tryz.prog 114 #[.pointer (some ⟨b, 0, none⟩), .int .i64 n] w fun r w' =>
      r = .returned (.string (bs (nextS n l e).1)) ∧ Rq w' b s (nextS n l e).2.1 (nextS n l e).2.2 ∧ Frm (· = b) w w' := by
  have hinv := h.inv
  by_cases hx : e ≠ 0 ∨ n = 0
  · have he : nextS n l e = ([], l, e) := by
      unfold nextS
      rcases hx with hx | rfl
      · rw [hinv hx]; split
        · simp
        · simp
      · simp
    rw [he]
    exact (q_fixed_none b s l e n w h (hx.imp id (fun h => by omega))).mono fun r w' ⟨h1, h2⟩ => by subst h2; exact ⟨h1, h, Frm.refl _ _⟩
  · obtain rfl : e = 0 := by omega
    unfold nextS
    by_cases hl : n ≤ l.length
    · rw [if_pos hl]
      exact q_fixed_ok b s l n w h hl (by omega)
    · rw [if_neg hl, if_pos rfl]
      exact q_fixed_torn b s l n w h (by omega) hn

end Go.Proofs.YtdhnidmeeocajaaGreat
end
section
namespace Go.Proofs.YtdhnidmeeocajaaGreat
open Go.RowKit Go.Shelf

theorem needs_int (n : Int) : ((needs n.toNat : Nat) : Int) = (max n 1 - 1).tdiv 58 + 1 := by
  unfold needs
  rw [Int.tdiv_eq_ediv_of_nonneg (by omega)]
  omega
set_option maxRecDepth 100000 in
set_option maxHeartbeats 1000000 in
theorem needs_any (n : Int) (w : World) (h : Z64 n) :
    Calls Tryz.prog 21 #[.int .i64 n] w fun e w' => e = .returned (.int .i64 (needs n.toNat : Nat)) ∧ w = w' := by
  have hn := needs_int n
  have h1 : IntKind.i64.wrap (max n 1 - 1) = max n 1 - 1 := IntWalk.i64_in _ (by unfold Z64 at h; omega)
  have h2 : IntKind.i64.wrap ((max n 1 - 1).tdiv 58) = (max n 1 - 1).tdiv 58 := IntWalk.i64_in _ (by rw [Int.tdiv_eq_ediv_of_nonneg (by omega)]; unfold Z64 at h; omega)
  have h3 : IntKind.i64.wrap ((max n 1 - 1).tdiv 58 + 1) = (max n 1 - 1).tdiv 58 + 1 := IntWalk.i64_in _ (by rw [Int.tdiv_eq_ediv_of_nonneg (by omega)]; unfold Z64 at h; omega)
  go_enter Tryz.func21, Tryz.ntmps21
  go_wp2_with fail
  go_ret
  exact ⟨by rw [hn]; rfl, rfl⟩
set_option maxRecDepth 100000 in
set_option maxHeartbeats 1000000 in
theorem rgzeros_any (c : Nat) (w : World) (hc : c ≤ 64) : Calls Tryz.prog 96 #[.int .i64 (c : Nat)] w fun e w' => e = .returned (.string (bs (nul c))) ∧ Frm (fun _ => False) w w' := by
  have HZ := Lib.hid (zeros_any c w hc)
  go_enter Tryz.func96, Tryz.ntmps96
  go_wp2_with fail
  refine HZ.out.mono ?_
  rintro e w1 ⟨rfl, g⟩
  go_wp2_with fail
  go_ret
  exact ⟨rfl, g⟩
set_option maxRecDepth 100000 in
set_option maxHeartbeats 1000000 in
theorem blank_any (s : List UInt8) (w : World) (hs : s.length ≤ 64) : Calls Tryz.prog 125 #[.string (bs s)] w fun e w' => e = .returned (.bool (decide (s = nul s.length))) ∧ Frm (fun _ => False) w w' := by
  have HZ := rgzeros_any s.length w hs
  have hsz : (bs s).size = s.length := rfl
  obtain ⟨n, hn⟩ : ∃ n, s.length = n := ⟨_, rfl⟩
  rw [hn] at HZ hs hsz ⊢
  have HZ := Lib.hid HZ
  have hb : ((bs s).toList == (bs (nul n)).toList) = decide (s = nul n) := by
    rw [bs_toList, bs_toList]
    rw [Bool.eq_iff_iff]
    simp
  clear hn
  go_enter Tryz.func125, Tryz.ntmps125
  go_wp2_with fail
  refine HZ.out.mono ?_
  rintro e w1 ⟨rfl, g⟩
  go_wp2_with fail
  go_ret
  exact ⟨rfl, g⟩
/-- A writer that a call made. -/
structure OwnW (w W : World) (b : Nat) (s : List UInt8) : Prop where
  wr : ∃ fp, Wr W b s fp ∧ ∀ k ∈ fp, w.heap.size ≤ k
  frm : Frm (fun _ => False) w W
theorem OwnW.start (w : World) : OwnW w (w.alloc (.cells #[.pointer none, .int .i64 0] 146)) w.heap.size [] :=
  ⟨⟨[w.heap.size], Wr.zero (Blk.alloc w _ _), fun k hk => by rw [List.mem_singleton.1 hk]; exact Nat.le_refl _⟩, (Frm.refl _ w).alloc _⟩
theorem OwnW.via {w W : World} {b : Nat} {s t : List UInt8} (h : OwnW w W b s) {F : FuncId} {args : Array Value} (hc : ∀ fp, Wr W b s fp → Calls Tryz.prog F args W (WrTo b t fp W)) :
    Calls Tryz.prog F args W fun e W' => e = .returned (.tuple #[]) ∧ OwnW w W' b t := by
  obtain ⟨⟨fp, h1, h2⟩, h3⟩ := h
  refine (hc fp h1).mono ?_
  rintro e W' ⟨rfl, fp', k1, k2, k3⟩
  exact ⟨rfl, ⟨fp', k1, fun k hk => (k3 k hk).elim (h2 k) fun e => Nat.le_trans h3.size e⟩, h3.next k2 fun k hk hY => by have := h2 k hY; omega⟩
theorem OwnW.keepF {w W W' : World} {b : Nat} {s : List UInt8} (h : OwnW w W b s) (g : Frm (fun _ => False) W W') : OwnW w W' b s := by
  obtain ⟨⟨fp, h1, h2⟩, h3⟩ := h
  exact ⟨⟨fp, h1.keep g (fun _ _ h => h), h2⟩, h3.trans g⟩
theorem OwnW.raw {w W : World} {b : Nat} {s : List UInt8} (h : OwnW w W b s) (t : List UInt8) (hl : s.length ≤ 1000000) (ht : t.length ≤ 1000000) :
    Calls Tryz.prog 95 #[.pointer (some ⟨b, 0, none⟩), .string (bs t)] W fun e W' => e = .returned (.tuple #[]) ∧ OwnW w W' b (s ++ t) :=
  h.via fun fp h1 => (raw_any b s t fp W h1 (by omega)).mono fun _ _ ⟨a, b⟩ => ⟨a, b⟩
theorem OwnW.u8 {w W : World} {b : Nat} {s : List UInt8} (h : OwnW w W b s) (n : Nat) (hn : n < 256) (hl : s.length ≤ 1000000) :
    Calls Tryz.prog 121 #[.pointer (some ⟨b, 0, none⟩), .int .u8 (n : Nat)] W fun e W' => e = .returned (.tuple #[]) ∧ OwnW w W' b (s ++ beB 1 n) :=
  h.via fun fp h1 => wu8_any b s fp n hn W h1 (by omega)
theorem OwnW.u16 {w W : World} {b : Nat} {s : List UInt8} (h : OwnW w W b s) (n : Nat) (hn : n < 65536) (hl : s.length ≤ 1000000) :
    Calls Tryz.prog 120 #[.pointer (some ⟨b, 0, none⟩), .int .u16 (n : Nat)] W fun e W' => e = .returned (.tuple #[]) ∧ OwnW w W' b (s ++ beB 2 n) :=
  h.via fun fp h1 => wu16_any b s fp n hn W h1 (by omega)
theorem OwnW.u32 {w W : World} {b : Nat} {s : List UInt8} (h : OwnW w W b s) (n : Nat) (hn : n < 4294967296) (hl : s.length ≤ 1000000) :
    Calls Tryz.prog 94 #[.pointer (some ⟨b, 0, none⟩), .int .u32 (n : Nat)] W fun e W' => e = .returned (.tuple #[]) ∧ OwnW w W' b (s ++ beB 4 n) :=
  h.via fun fp h1 => wu32_any b s fp n hn W h1 (by omega)
theorem OwnW.bytes {w W : World} {b : Nat} {s : List UInt8} (h : OwnW w W b s) :
    Calls Tryz.prog 97 #[.pointer (some ⟨b, 0, none⟩)] W fun e W' => e = .returned (.string (bs s)) ∧ Frm (fun _ => False) w W' := by
  obtain ⟨⟨fp, h1, h2⟩, h3⟩ := h
  exact (bytes_any b s fp W h1).mono fun e W' ⟨a1, a2⟩ => ⟨a1, h3.trans a2⟩
set_option maxRecDepth 100000 in
set_option maxHeartbeats 2000000 in
theorem header_any (g : Nat) (w : World) (hg : g < 4294967296) : Calls Tryz.prog 67 #[.int .u32 (g : Nat)] w fun e w' => e = .returned (.string (bs (hdB g))) ∧ Frm (fun _ => False) w w' := by
  have h0 := OwnW.start w
  have H1 := Lib.hid (h0.u32 g hg (by decide))
  clear h0
  go_enter Tryz.func67, Tryz.ntmps67
  go_wp2_with fail
  refine H1.out.mono ?_
  rintro e w1 ⟨rfl, h1⟩
  have HZ := Lib.hid (rgzeros_any 56 w1 (by decide))
  have H1' := Lib.hid h1
  clear h1 H1
  go_wp2_with fail
  refine HZ.out.mono ?_
  rintro e w2 ⟨rfl, g2⟩
  have H2 := Lib.hid ((H1'.out.keepF g2).raw (nul 56) (by simp [beB_len]) (by rw [nul_len]; decide))
  clear g2 HZ H1'
  go_wp2_with fail
  refine H2.out.mono ?_
  rintro e w3 ⟨rfl, h3⟩
  have H3 := Lib.hid (h3.u32 g hg (by simp [beB_len, nul_len]))
  clear h3 H2
  go_wp2_with fail
  refine H3.out.mono ?_
  rintro e w4 ⟨rfl, h4⟩
  have H4 := Lib.hid h4.bytes
  clear h4 H3
  go_wp2_with fail
  refine H4.out.mono ?_
  rintro e w5 ⟨rfl, g5⟩
  have G5 := Lib.hid g5
  clear g5 H4
  go_wp2_with fail
  go_ret
  exact ⟨rfl, G5.out⟩
set_option maxRecDepth 100000 in
set_option maxHeartbeats 2000000 in
theorem logBlock_any (i : Nat) (s : List UInt8) (last : Bool) (w : World) (hi : i < 65536) (hs : s.length ≤ 58) : Calls Tryz.prog 93 #[.int .i64 (i : Nat), .string (bs s), .bool last] w fun e w' => e = .returned (.string (bs (logB i (if last then 1 else 0) s))) ∧ Frm (fun _ => False) w w' := by
  have h0 := OwnW.start w
  have H1 := Lib.hid (h0.u16 i hi (by decide))
  have hw16 : IntKind.u16.wrap (i : Int) = (i : Int) := IntWalk.u16_in _ (by omega)
  have hsz : (bs s).size = s.length := rfl
  have hw8 : IntKind.u8.wrap (s.length : Int) = (s.length : Int) := IntWalk.u8_in _ (by omega)
  have hsub : (58 : Int) - (s.length : Int) = ((58 - s.length : Nat) : Int) := by omega
  have hws : IntKind.i64.wrap ((58 - s.length : Nat) : Int) = ((58 - s.length : Nat) : Int) := IntWalk.i64_in _ (by omega)
  obtain ⟨n, hn⟩ : ∃ n, s.length = n := ⟨_, rfl⟩
  have HN := Lib.hid hn
  rw [hn] at hs hsz hw8 hsub hws
  obtain ⟨m, hm⟩ : ∃ m, 58 - n = m := ⟨_, rfl⟩
  have HM := Lib.hid hm
  rw [hm] at hsub hws
  have hm64 : m ≤ 64 := by omega
  clear h0 hn hm
  go_enter Tryz.func93, Tryz.ntmps93
  go_wp2_with fail
  refine H1.out.mono ?_
  rintro e w1 ⟨rfl, h1⟩
  have HF1 := Lib.hid (h1.u8 1 (by decide) (by simp [beB_len]))
  have HF0 := Lib.hid (h1.u8 0 (by decide) (by simp [beB_len]))
  clear h1 H1
  cases last with
  | true =>
    clear HF0
    go_wp2_with fail
    refine HF1.out.mono ?_
    rintro e w2 ⟨rfl, h2⟩
    have H2 := h2.u8 n (by omega) (by simp [beB_len])
    have H2 := Lib.hid H2
    clear h2
    go_wp2_with fail
    refine H2.out.mono ?_
    rintro e w3 ⟨rfl, h3⟩
    have H3 := Lib.hid (h3.raw s (by simp [beB_len]) (by rw [HN.out]; omega))
    clear h3 H2
    go_wp2_with fail
    refine H3.out.mono ?_
    rintro e w4 ⟨rfl, h4⟩
    have H4 := Lib.hid h4
    have HZ := Lib.hid (rgzeros_any m w4 hm64)
    clear h4 H3
    go_wp2_with fail
    refine HZ.out.mono ?_
    rintro e w5 ⟨rfl, g5⟩
    have H5 := Lib.hid ((H4.out.keepF g5).raw (nul m) (by simp [beB_len]; rw [HN.out]; omega) (by rw [nul_len]; omega))
    clear g5 HZ H4
    go_wp2_with fail
    refine H5.out.mono ?_
    rintro e w6 ⟨rfl, h6⟩
    have H6 := Lib.hid (h6.u16 i hi (by simp [beB_len, nul_len]; rw [HN.out]; omega))
    clear h6 H5
    go_wp2_with fail
    refine H6.out.mono ?_
    rintro e w7 ⟨rfl, h7⟩
    have H7 := Lib.hid h7.bytes
    clear h7 H6
    go_wp2_with fail
    refine H7.out.mono ?_
    rintro e w8 ⟨rfl, g8⟩
    have G8 := Lib.hid g8
    clear g8 H7
    go_wp2_with fail
    go_ret
    refine ⟨?_, G8.out⟩
    unfold logB
    rw [HN.out, HM.out]
    rfl
  | false =>
    clear HF1
    go_wp2_with fail
    refine HF0.out.mono ?_
    rintro e w2 ⟨rfl, h2⟩
    have H2 := h2.u8 n (by omega) (by simp [beB_len])
    have H2 := Lib.hid H2
    clear h2
    go_wp2_with fail
    refine H2.out.mono ?_
    rintro e w3 ⟨rfl, h3⟩
    have H3 := Lib.hid (h3.raw s (by simp [beB_len]) (by rw [HN.out]; omega))
    clear h3 H2
    go_wp2_with fail
    refine H3.out.mono ?_
    rintro e w4 ⟨rfl, h4⟩
    have H4 := Lib.hid h4
    have HZ := Lib.hid (rgzeros_any m w4 hm64)
    clear h4 H3
    go_wp2_with fail
    refine HZ.out.mono ?_
    rintro e w5 ⟨rfl, g5⟩
    have H5 := Lib.hid ((H4.out.keepF g5).raw (nul m) (by simp [beB_len]; rw [HN.out]; omega) (by rw [nul_len]; omega))
    clear g5 HZ H4
    go_wp2_with fail
    refine H5.out.mono ?_
    rintro e w6 ⟨rfl, h6⟩
    have H6 := Lib.hid (h6.u16 i hi (by simp [beB_len, nul_len]; rw [HN.out]; omega))
    clear h6 H5
    go_wp2_with fail
    refine H6.out.mono ?_
    rintro e w7 ⟨rfl, h7⟩
    have H7 := Lib.hid h7.bytes
    clear h7 H6
    go_wp2_with fail
    refine H7.out.mono ?_
    rintro e w8 ⟨rfl, g8⟩
    have G8 := Lib.hid g8
    clear g8 H7
    go_wp2_with fail
    go_ret
    refine ⟨?_, G8.out⟩
    unfold logB
    rw [HN.out, HM.out]
    rfl
end Go.Proofs.YtdhnidmeeocajaaGreat
end
