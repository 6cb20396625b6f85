/- What the putting of var numbers and of texts does. -/
import Derived.Test.YtddjkbpgaenpgaaGreatCodecP
import Derived.Test.YtddjkbpgaenpgaaGreatCodecV
import Derived.Deep.RegionWith
import Derived.Deep.QuietTactic
import Derived.BigQuiet
section
namespace Go.Proofs.YtddjkbpgaenpgaaGreat
open Go.RowKit Go.Shelf
attribute [local go_sem] Oper.semAt_some

theorem OwnFrom.up {β : Type} {B B' : Nat} {I : β → World → Prop} (h : OwnFrom B I) (hB : B ≤ B') : OwnFrom B' I := fun s W W' row hs hg hr => h s W W' row hs hg fun r e => ⟨Nat.le_trans hB (hr r e).1, (hr r e).2⟩

theorem Wr.isC {w : World} {b : Nat} {s : List UInt8} {fp : List Nat} (h : Wr w b s fp) : ∀ k o, k ∈ fp → w.heap[k]? = some o → o.isCells = true := by
  intro k o hk ho
  rcases h.2 with ⟨_, rfl, hb⟩ | ⟨p, v, rfl, hb, hp, hr, _⟩
  · obtain rfl : k = b := by simpa using hk
    exact hb.isCells _ o rfl ho
  · rcases List.mem_cons.1 hk with rfl | hk
    · exact hb.isCells _ o rfl ho
    · rcases List.mem_cons.1 hk with rfl | hk
      · exact hp.isCells _ o rfl ho
      · obtain ⟨o', ho', hc⟩ := hr.isC k (by simpa using hk)
        rw [ho] at ho'
        cases ho'
        exact hc
theorem Wr.turned {w w' : World} {b : Nat} {s : List UInt8} {fp : List Nat} {row : Option Nat} (h : Wr w b s fp) (hg : w.grownBy w' row) (hr : ∀ r, row = some r → ∃ o : Obj, w.heap[r]? = some o ∧ o.isCells = false) : Wr w' b s fp := by
  refine h.keep (X := fun k => row = some k) ((Frm.refl _ w).grown hg fun k _ e => e) fun k hk e => ?_
  obtain ⟨o, ho, hc⟩ := hr k e
  rw [h.isC k o hk ho] at hc
  cases hc

/-- How a call that writes ends: the writer has s, its own blocks are elder ones of its own and new ones. -/
def WrTo (b : Nat) (s : List UInt8) (fp : List Nat) (w : World) (e : Ending) (W : World) : Prop :=
  e = .returned (.tuple #[]) ∧ ∃ fp', Wr W b s fp' ∧ Frm (· ∈ fp) w W ∧ ∀ k ∈ fp', k ∈ fp ∨ w.heap.size ≤ k
theorem wu8_any (b : Nat) (s : List UInt8) (fp : List Nat) (n : Nat) (hn : n < 256) (w : World) (h : Wr w b s fp) (hl : s.length + 4 ≤ 70368744177664) :
    Calls Tryz.prog 157 #[.pointer (some ⟨b, 0, none⟩), .int .u8 n] w (WrTo b (s ++ beB 1 n) fp w) :=
  w_u8 _ n hn w _ fun w' hf => (raw_of b s (beB 1 n) fp w h (by rw [beB_len]; omega) w' hf).mono fun _ _ ⟨a1, a2⟩ => ⟨a1, a1, a2⟩
theorem wu16_any (b : Nat) (s : List UInt8) (fp : List Nat) (n : Nat) (hn : n < 65536) (w : World) (h : Wr w b s fp) (hl : s.length + 4 ≤ 70368744177664) :
    Calls Tryz.prog 156 #[.pointer (some ⟨b, 0, none⟩), .int .u16 n] w (WrTo b (s ++ beB 2 n) fp w) :=
  w_u16 _ n hn w _ fun w' hf => (raw_of b s (beB 2 n) fp w h (by rw [beB_len]; omega) w' hf).mono fun _ _ ⟨a1, a2⟩ => ⟨a1, a1, a2⟩
theorem wu32_any (b : Nat) (s : List UInt8) (fp : List Nat) (n : Nat) (hn : n < 4294967296) (w : World) (h : Wr w b s fp) (hl : s.length + 4 ≤ 70368744177664) :
    Calls Tryz.prog 126 #[.pointer (some ⟨b, 0, none⟩), .int .u32 n] w (WrTo b (s ++ beB 4 n) fp w) :=
  w_u32 _ n hn w _ fun w' hf => (raw_of b s (beB 4 n) fp w h (by rw [beB_len]; omega) w' hf).mono fun _ _ ⟨a1, a2⟩ => ⟨a1, a1, a2⟩
/-- A writer of a law's own, behind some writing. -/
structure Own1 (w W : World) (b : Nat) (s : List UInt8) : Prop where
  wr : ∃ fp, Wr W b s fp ∧ ∀ k ∈ fp, w.heap.size ≤ k
  frm : Frm (fun _ => False) w W
theorem Own1.step {w W W' : World} {b : Nat} {t : List UInt8} {fp : List Nat} {e : Ending} (hf : Frm (fun _ => False) w W) (hfp : ∀ k ∈ fp, w.heap.size ≤ k) (h : WrTo b t fp W e W') : e = .returned (.tuple #[]) ∧ Own1 w W' b t := by
  obtain ⟨rfl, fp', h1, h2, h3⟩ := h
  exact ⟨rfl, ⟨fp', h1, fun k hk => (h3 k hk).elim (hfp k) fun e => Nat.le_trans hf.size e⟩, hf.next h2 fun k hk hY => by have := hfp k hY; omega⟩
end Go.Proofs.YtddjkbpgaenpgaaGreat
end
section
namespace Go.Proofs.YtddjkbpgaenpgaaGreat
open Go.RowKit

set_option maxHeartbeats 400000 in
theorem cread_any (l : List UInt8) (w : World) (hl : l.length ≤ 140737488355328) :
    Calls Tryz.prog 131 #[.string (bs l)] w fun e w' => e = .returned (.pointer (some ⟨w.heap.size, 0, none⟩)) ∧ Rd w' w.heap.size l 0 ∧ Frm (fun _ => False) w w' := by
  go_enter Tryz.func131, Tryz.ntmps131
  go_wp2
  go_ret
  exact ⟨rfl, ⟨Blk.alloc w _ _, hl, by omega⟩, (Frm.refl _ w).alloc _⟩

theorem Frm.new {w w1 w2 : World} {X Y : Nat → Prop} (h : Frm X w w1) (h' : Frm Y w1 w2) (hy : ∀ k, Y k → w.heap.size ≤ k) : Frm X w w2 := h.next h' fun k hk hY => by have := hy k hY; omega

end Go.Proofs.YtddjkbpgaenpgaaGreat
end
section
namespace Go.Proofs.YtddjkbpgaenpgaaGreat
open Go.RowKit
/-- Something that is written, or read. -/
structure Item where
  k : Nat
  n : Nat
  s : List UInt8
/-- The slice value v reads as these items. -/
def It (w : World) (v : Value) (L : List Item) : Prop :=
  ∃ a cap, v = .slice a L.length cap ∧ L.length ≤ cap ∧ cap ≤ maxLen ∧ ∀ i (h : i < L.length), ∃ b off, a = some ⟨b, off, none⟩ ∧ b < w.heap.size ∧
    w.cell? ⟨b, off + i * 3, none⟩ = some (.int .u8 L[i].k) ∧ w.cell? ⟨b, off + i * 3 + 1, none⟩ = some (.int .u32 L[i].n) ∧ w.cell? ⟨b, off + i * 3 + 2, none⟩ = some (.string (bs L[i].s)) ∧
    L[i].k < 256 ∧ L[i].n < 4294967296 ∧ L[i].s.length ≤ 9223372036854775807
theorem It.keep {X : Nat → Prop} {w w' : World} {v : Value} {L : List Item} (h : It w v L) (hf : Frm X w w') (hn : ∀ k, k < w.heap.size → ¬ X k) : It w' v L := by
  obtain ⟨a, cap, hv, h1, h2, h3⟩ := h
  refine ⟨a, cap, hv, h1, h2, fun i hi => ?_⟩
  obtain ⟨b, off, ha, hb, c0, c1, c2, r⟩ := h3 i hi
  have e := hf.block b hb (hn b hb)
  have ec : ∀ j, w'.cell? ⟨b, j, none⟩ = w.cell? ⟨b, j, none⟩ := fun j => World.cell?_of_block (a := ⟨b, j, none⟩) e
  exact ⟨b, off, ha, Nat.lt_of_lt_of_le hb hf.size, by rw [ec]; exact c0, by rw [ec]; exact c1, by rw [ec]; exact c2, r⟩

end Go.Proofs.YtddjkbpgaenpgaaGreat
end
section
namespace Go.Proofs.YtddjkbpgaenpgaaGreat
open Go.RowKit
set_option maxHeartbeats 400000 in
theorem ru8_any (b : Nat) (l : List UInt8) (e : Nat) (w : World) (h : Rd w b l e) :
    Calls Tryz.prog 163 #[.pointer (some ⟨b, 0, none⟩)] w fun r w' => r = .returned (.int .u8 (numS 1 l e).1) ∧ Rd w' b (numS 1 l e).2.1 (numS 1 l e).2.2 ∧ Frm (· = b) w w' := by
  go_enter Tryz.func163, Tryz.ntmps163
  go_wp2_with (go_at_call 178; refine (take_u8 b l e _ h).mono ?_; rintro r w' ⟨rfl, h1, h2⟩)
  go_ret
  exact ⟨rfl, h1, h2⟩
set_option maxHeartbeats 400000 in
theorem ru16_any (b : Nat) (l : List UInt8) (e : Nat) (w : World) (h : Rd w b l e) :
    Calls Tryz.prog 162 #[.pointer (some ⟨b, 0, none⟩)] w fun r w' => r = .returned (.int .u16 (numS 2 l e).1) ∧ Rd w' b (numS 2 l e).2.1 (numS 2 l e).2.2 ∧ Frm (· = b) w w' := by
  go_enter Tryz.func162, Tryz.ntmps162
  go_wp2_with (go_at_call 177; refine (take_u16 b l e _ h).mono ?_; rintro r w' ⟨rfl, h1, h2⟩)
  go_ret
  exact ⟨rfl, h1, h2⟩
set_option maxHeartbeats 400000 in
theorem ru32_any (b : Nat) (l : List UInt8) (e : Nat) (w : World) (h : Rd w b l e) :
    Calls Tryz.prog 132 #[.pointer (some ⟨b, 0, none⟩)] w fun r w' => r = .returned (.int .u32 (numS 4 l e).1) ∧ Rd w' b (numS 4 l e).2.1 (numS 4 l e).2.2 ∧ Frm (· = b) w w' := by
  go_enter Tryz.func132, Tryz.ntmps132
  go_wp2_with (go_at_call 159; refine (take_u32 b l e _ h).mono ?_; rintro r w' ⟨rfl, h1, h2⟩)
  go_ret
  exact ⟨rfl, h1, h2⟩
end Go.Proofs.YtddjkbpgaenpgaaGreat
end
section
namespace Go.Proofs.YtddjkbpgaenpgaaGreat
open Go.RowKit
/-- The document's reader: the text that it reads, what is left, and its error. -/
def Rq (w : World) (b : Nat) (s l : List UInt8) (e : Nat) : Prop :=
  ∃ a : Nat, Blk w b 155 #[.string (bs s), .int .i64 a, .int .i64 e] ∧ a ≤ s.length ∧ s.length ≤ 140737488355328 ∧ e ≤ 17 ∧ (e = 0 → l = s.drop a) ∧ (e ≠ 0 → l = [])
theorem Rq.keep {X : Nat → Prop} {w w' : World} {b : Nat} {s l : List UInt8} {e : Nat} (h : Rq w b s l e) (hf : Frm X w w') (hn : ¬ X b) : Rq w' b s l e := by
  obtain ⟨a, h1, h2⟩ := h
  exact ⟨a, h1.keep hf hn, h2⟩
theorem Rq.lt {w : World} {b : Nat} {s l : List UInt8} {e : Nat} (h : Rq w b s l e) : b < w.heap.size := by
  obtain ⟨a, h1, _⟩ := h
  exact h1.lt
theorem Rq.inv {w : World} {b : Nat} {s l : List UInt8} {e : Nat} (h : Rq w b s l e) : e ≠ 0 → l = [] := by
  obtain ⟨a, _, _, _, _, _, h2⟩ := h
  exact h2
theorem bs_part (l : List UInt8) (i j : Nat) : (bs l).extract i j = bs ((l.take j).drop i) := by
  apply ByteArray.ext
  simp only [ByteArray.data_extract]
  apply Array.ext'
  simp [bs, List.drop_take]

end Go.Proofs.YtddjkbpgaenpgaaGreat
end
