/- What putHead, Put, PutContent answer, and the document's own. Of any value and content that are no longer than can be. -/
import Derived.Test.YtlajfmpgodcbmaaValE
import Derived.Test.YtlajfmpgodcbmaaRefW
import Derived.Test.YtlajfmpgodcbmaaLawA
namespace Go.Proofs.Ytlajfmpgodcbmaa
open Go.RowKit

theorem headB_true (n : Nat) : headB true n = beB 1 1 := rfl
theorem headB_len (d : Bool) (n : Nat) : (headB d n).length ≤ 3 := by
  cases d
  · simp [headB, beB_len]
  · simp [headB]

set_option maxRecDepth 100000 in
set_option maxHeartbeats 1000000 in
theorem phead_any (b : Nat) (s : List UInt8) (fp : List Nat) (d : Bool) (n : Nat) (w : World) (h : Wr w b s fp) (hn : n < 65536) (hl : s.length + 9 ≤ 70368744177664) :
    Calls Try.prog 39 #[.pointer (some ⟨b, 0, none⟩), .bool d, .int .i64 n] w (WrTo b (s ++ headB d n) fp w) := by
  cases d with
  | true =>
    go_enter Try.func39, Try.ntmps39
    go_wp2_with fail
    refine (wu8_any b s fp 1 (by decide) _ h (by omega)).mono ?_
    rintro e w1 ⟨rfl, fp', h1, f1, n1⟩
    go_wp2_with fail
    go_end0
    exact ⟨rfl, fp', h1, f1, n1⟩
  | false =>
    have hn' : ((n : Int) % 65536) = n := by omega
    go_enter Try.func39, Try.ntmps39
    go_wp2_with fail
    refine (wu8_any b s fp 0 (by decide) _ h (by omega)).mono ?_
    rintro e w1 ⟨rfl, fp', h1, f1, n1⟩
    have hle : (s ++ beB 1 0).length + 4 ≤ 70368744177664 := by simp [beB_len]; omega
    go_wp2_with fail
    refine (wu16_any b (s ++ beB 1 0) fp' n hn _ h1 hle).mono ?_
    rintro e w2 ⟨rfl, fp2, h2, f2, n2⟩
    go_wp2_with fail
    go_end0
    refine ⟨rfl, fp2, by rw [headB, if_neg (by decide), ← List.append_assoc]; exact h2, f1.next f2 (fun k hk hY => (n1 k hY).elim id (fun e => by omega)), fun k hk => ?_⟩
    rcases n2 k hk with e | e
    · exact n1 k e
    · exact .inr (Nat.le_trans f1.size e)

set_option maxRecDepth 100000 in
set_option maxHeartbeats 4000000 in
theorem put_any7 (d : Bool) (s : Int) (c : Value) (l : List Nat) (w : World) (hs : I64 s) (h : Ids w c l) (hfit : ∀ x ∈ l, x < 4294967296) :
    Calls Try.prog 19 #[.agg (av d s c)] w fun e w' => e = .returned (.tuple #[.string (bs (putV d s l).1), .int .i64 (putV d s l).2]) ∧ Frm (fun _ => False) w w' := by
  have b0 : Blk (w.alloc (.cells (av d s c) 24)) w.heap.size 24 (av d s c) := Blk.alloc w _ _
  have g0 : Frm (fun _ => False) w (w.alloc (.cells (av d s c) 24)) := (Frm.refl _ w).alloc _
  have CK := check_any d s c l _ hs (h.keepF g0)
  cases hok : okV d s l with
  | false =>
    have hp : putV d s l = ([], 4) := by unfold putV; rw [hok]; rfl
    rw [hp]
    rw [hok] at CK
    have HCK := Lib.hid CK
    clear CK hp hok
    go_enter Try.func19, Try.ntmps19
    go_wp2_with fail
    refine HCK.out.mono ?_
    rintro e w1 ⟨rfl, g1⟩
    go_wp2_with fail
    refine bodyPost_ret (v := .tuple #[.string ⟨#[]⟩, .int .i64 4]) (by simp [results, Try.results19, go_sem]) rfl ?_
    exact ⟨rfl, g0.trans g1⟩
  | true =>
    have hp : putV d s l = (headB d s.toNat ++ idsB l, 0) := by unfold putV; rw [hok]; rfl
    rw [hp]
    rw [hok] at CK
    have HCK := Lib.hid CK
    obtain ⟨q1, q2, q3, q4⟩ := okV_iff hok
    obtain ⟨n, rfl⟩ : ∃ n : Nat, s = n := ⟨s.toNat, by omega⟩
    have hn : n ≤ 256 := by cases d <;> simp [most] at q2 <;> omega
    have hlen : l.length ≤ 4 := by rw [q3]; exact count_le (by omega)
    clear CK hp hok q1 q2 q3 q4 hs
    rw [Int.toNat_natCast]
    obtain ⟨a, cap, rfl, hc1, hc2⟩ := h.slice
    go_enter Try.func19, Try.ntmps19
    go_wp2_with fail
    refine HCK.out.mono ?_
    rintro e w1 ⟨rfl, g1⟩
    have k1 := (g0.trans g1).alloc (.cells #[.pointer none, .int .i64 0] 72)
    have hb := Wr.zero (Blk.alloc w1 72 #[.pointer none, .int .i64 0])
    have b1 := (b0.keep g1 (fun h => h)).old (.cells #[.pointer none, .int .i64 0] 72)
    have y0 := b1.cell 0 rfl
    have y1 := b1.cell 1 rfl
    have y2 := b1.cell 2 rfl
    have hz1 := (g0.trans g1).size
    go_wp2_with fail
    obtain ⟨b, hbb⟩ : ∃ b, w1.heap.size = b := ⟨_, rfl⟩
    rw [hbb] at hb hz1 ⊢
    generalize w1.alloc (.cells #[.pointer none, .int .i64 0] 72) = w2 at *
    clear hbb y0 y1 y2
    refine (phead_any b [] [b] d n w2 hb (by omega) (by decide)).mono ?_
    rintro e w3 ⟨rfl, fp, h3, f3, n3⟩
    have nfp : ∀ k ∈ fp, w.heap.size ≤ k := fun k hk => (n3 k hk).elim (fun e => by simp at e; omega) (fun e => Nat.le_trans k1.size e)
    have hb1 := b1.lt
    have k3 : Frm (fun _ => False) w w3 := k1.next f3 (fun k hk hY => by simp at hY; omega)
    have HB := Lib.hid hb1
    have b3 : Blk w3 w.heap.size 24 (av d n (.slice a l.length cap)) := by
      by_cases e : w.heap.size = b
      · exfalso
        have h9 := hb.2
        rcases h9 with ⟨_, _, h9⟩ | ⟨p, v, h9, _⟩
        · rw [e] at b1
          have h10 := b1.symm.trans h9
          cases h10
        · simp at h9
      · exact b1.keep f3 (fun hk => e (by simpa using hk))
    have x2 := b3.cell 2 rfl
    clear b0 b1 HCK g0 g1 hb f3 n3 k1 HB hb1
    go_wp2_with fail
    go_loopw [21] (fun i wr => ∃ (k : Nat) (fp : List Nat), k ≤ l.length ∧ i = .int .i64 k ∧ Wr wr b (headB d n ++ idsB (l.take k)) fp ∧ (∀ k ∈ fp, w.heap.size ≤ k) ∧ Frm (fun _ => False) w wr) (fun i _ => l.length - (intOf i).toNat)
    case atStart => exact ⟨0, fp, Nat.zero_le _, rfl, by simpa [idsB] using h3, nfp, k3⟩
    case round =>
      obtain ⟨k, fp, hk, rfl, hw, nfp, fr⟩ := hrel
      have Hw := Lib.hid hw
      have Hn := Lib.hid nfp
      clear hw nfp
      by_cases hlt : k < l.length
      · obtain ⟨g, off, rfl, _, cl⟩ := (h.keepF fr).at k hlt
        have hx := hfit l[k] (List.getElem_mem hlt)
        have hle : (headB d n ++ idsB (l.take k)).length + 4 ≤ 70368744177664 := by
          have := headB_len d n
          rw [List.length_append, idsB_len, List.length_take]; omega
        go_wp2_with fail
        refine (wu32_any b _ fp l[k] hx _ Hw.out hle).mono ?_
        rintro e w5 ⟨rfl, fp5, h5, f5, n5⟩
        clear cl hle
        have h6 : Wr w5 b (headB d n ++ idsB (l.take (k + 1))) fp5 := by
          rw [List.take_succ_eq_append_getElem hlt, idsB_snoc, ← List.append_assoc]; exact h5
        have H6 := Lib.hid h6
        clear h5 h6
        go_wp2_with fail
        go_roundw
        case rel => exact ⟨k + 1, fp5, by omega, by go_num, H6.out, fun j hj => (n5 j hj).elim (Hn.out j) (fun e => Nat.le_trans fr.size e), fr.next f5 (fun j hj hY => by have := Hn.out j hY; omega)⟩
        case measure => simp [intOf]; omega
      · obtain rfl : k = l.length := by omega
        have hw := Hw.out
        rw [List.take_length] at hw
        go_wp2_with fail
        refine (bytes_any b _ fp _ hw).mono ?_
        rintro e w5 ⟨rfl, f5⟩
        clear hw
        go_wp2_with fail
        refine bodyPost_ret (v := .tuple #[.string (bs (headB d n ++ idsB l)), .int .i64 0]) (by simp [results, Try.results19, go_sem]) rfl ?_
        exact ⟨rfl, fr.trans f5⟩

set_option maxRecDepth 100000 in
set_option maxHeartbeats 4000000 in
theorem putc_any (d : Bool) (t : List UInt8) (w : World) (ht : t.length ≤ 3000) :
    Calls Try.prog 21 #[.agg #[.bool d, .string (bs t)]] w fun e w' => e = .returned (.tuple #[.string (bs (putC d t).1), .int .i64 (putC d t).2]) ∧ Frm (fun _ => False) w w' := by
  have b0 : Blk (w.alloc (.cells #[.bool d, .string (bs t)] 38)) w.heap.size 38 #[.bool d, .string (bs t)] := Blk.alloc w _ _
  have g0 : Frm (fun _ => False) w (w.alloc (.cells #[.bool d, .string (bs t)] 38)) := (Frm.refl _ w).alloc _
  have c0 := b0.cell 0 rfl
  have c1 := b0.cell 1 rfl
  have HM := Lib.hid (fun W => most_anyF d W)
  have hz : (bs t).size = t.length := rfl
  obtain ⟨m, hm⟩ : ∃ m, most d = m := ⟨_, rfl⟩
  have hm2 : m ≤ 256 := by rw [← hm]; cases d <;> simp [most]
  by_cases hok : t.length ≤ m
  · have hp : putC d t = (headB d t.length ++ t, 0) := by unfold putC; rw [hm, if_pos hok]
    rw [hp]
    clear hp
    simp only [hm] at HM
    clear hm
    have hq : ¬ ((m : Int) < ((bs t).size : Int)) := by omega
    have hq2 : ((bs t).size : Int) ≤ (m : Int) := by omega
    have Hz := Lib.hid hz
    clear hz
    go_enter Try.func21, Try.ntmps21
    go_wp2_with fail
    refine wp_region_canon (fun W => W.cell? ⟨w.heap.size, 0, none⟩ = some (.bool d) ∧ W.cell? ⟨w.heap.size, 1, none⟩ = some (.string (bs t)) ∧ Frm (fun _ => False) w W) (by kernel_rfl) rfl (by kernel_rfl) (by kernel_rfl) (⟨c0, c1, g0.drew⟩) ?_
    repeat' first
      | (refine CanonL.skip (by rfl) ?_; (try simp only [Act.put, List.setIfInBounds_toArray, List.set_cons_zero, List.set_cons_succ]))
      | (refine CanonL.callQ (by rfl) (by rfl) ?_ HM ?_ ?_; (focus (intro w; go_simp; (try (with_reducible rfl)); done)); (focus (rintro w ww hs gg; exact ⟨gg.cellF' hs.1, gg.cellF' hs.2.1, hs.2.2.trans gg⟩)); (try simp only [Act.put, List.setIfInBounds_toArray, List.set_cons_zero, List.set_cons_succ]))
      | (refine CanonL.val (v := ?_) (by rfl) ?_ ?_; rotate_left 1; (focus (intro w hSw; (try dsimp only at hSw); go_simp; (try (with_reducible rfl)); done)); (try simp only [Act.put, List.setIfInBounds_toArray, List.set_cons_zero, List.set_cons_succ]))
    refine CanonL.done ?_
    intro w9 hS9
    obtain ⟨x0, x1, ff⟩ := hS9
    have hlt : w.heap.size < w9.heap.size := World.block_lt_of_cell? w9 _ x0
    have k1 := ff.alloc (.cells #[.pointer none, .int .i64 0] 72)
    have hb := Wr.zero (Blk.alloc w9 72 #[.pointer none, .int .i64 0])
    have ga : Frm (fun _ => False) w9 (w9.alloc (.cells #[.pointer none, .int .i64 0] 72)) := (Frm.refl _ w9).alloc _
    have y0 := ga.cellF' x0
    have y1 := ga.cellF' x1
    clear x0 x1
    go_wp2_with fail
    obtain ⟨b, hbb⟩ : ∃ b, w9.heap.size = b := ⟨_, rfl⟩
    rw [hbb] at hb hlt ⊢
    generalize w9.alloc (.cells #[.pointer none, .int .i64 0] 72) = w2 at *
    clear hbb
    rw [Hz.out]
    refine (phead_any b [] [b] d t.length w2 hb (by omega) (by decide)).mono ?_
    rintro e w3 ⟨rfl, fp, h3, f3, n3⟩
    have nfp : ∀ k ∈ fp, w.heap.size ≤ k := fun k hk => (n3 k hk).elim (fun e => by simp at e; omega) (fun e => Nat.le_trans k1.size e)
    have k3 : Frm (fun _ => False) w w3 := k1.next f3 (fun k hk hY => by simp at hY; omega)
    have x1 : w3.cell? ⟨w.heap.size, 1, none⟩ = some (.string (bs t)) := (World.cell?_of_block (a := ⟨w.heap.size, 1, none⟩) (f3.block _ (World.block_lt_of_cell? w2 _ y1) (by simp; omega))).trans y1
    clear y0 y1 hb f3 n3 k1
    go_wp2_with fail
    refine (raw_any b _ t fp _ h3 (by have := headB_len d t.length; simp; omega)).mono ?_
    rintro e w4 ⟨rfl, fp4, h4, f4, n4⟩
    have k4 : Frm (fun _ => False) w w4 := k3.next f4 (fun k hk hY => by have := nfp k hY; omega)
    rw [List.nil_append] at h4
    go_wp2_with fail
    refine (bytes_any b _ fp4 _ h4).mono ?_
    rintro e w5 ⟨rfl, f5⟩
    go_wp2_with fail
    refine bodyPost_ret (v := .tuple #[.string (bs (headB d t.length ++ t)), .int .i64 0]) (by simp [results, Try.results21, go_sem]) rfl ?_
    exact ⟨rfl, k4.trans f5⟩
  · have hp : putC d t = ([], 4) := by unfold putC; rw [hm, if_neg hok]
    rw [hp]
    clear hp
    simp only [hm] at HM
    clear hm
    have hq : ((m : Int) < ((bs t).size : Int)) := by omega
    clear hz
    go_enter Try.func21, Try.ntmps21
    go_wp2_with fail
    refine wp_region_canon (fun W => W.cell? ⟨w.heap.size, 0, none⟩ = some (.bool d) ∧ W.cell? ⟨w.heap.size, 1, none⟩ = some (.string (bs t)) ∧ Frm (fun _ => False) w W) (by kernel_rfl) rfl (by kernel_rfl) (by kernel_rfl) (⟨c0, c1, g0.drew⟩) ?_
    repeat' first
      | (refine CanonL.skip (by rfl) ?_; (try simp only [Act.put, List.setIfInBounds_toArray, List.set_cons_zero, List.set_cons_succ]))
      | (refine CanonL.callQ (by rfl) (by rfl) ?_ HM ?_ ?_; (focus (intro w; go_simp; (try (with_reducible rfl)); done)); (focus (rintro w ww hs gg; exact ⟨gg.cellF' hs.1, gg.cellF' hs.2.1, hs.2.2.trans gg⟩)); (try simp only [Act.put, List.setIfInBounds_toArray, List.set_cons_zero, List.set_cons_succ]))
      | (refine CanonL.val (v := ?_) (by rfl) ?_ ?_; rotate_left 1; (focus (intro w hSw; (try dsimp only at hSw); go_simp; (try (with_reducible rfl)); done)); (try simp only [Act.put, List.setIfInBounds_toArray, List.set_cons_zero, List.set_cons_succ]))
    refine CanonL.done ?_
    intro w9 hS9
    obtain ⟨x0, x1, ff⟩ := hS9
    go_wp2_with fail
    refine bodyPost_ret (v := .tuple #[.string ⟨#[]⟩, .int .i64 4]) (by simp [results, Try.results21, go_sem]) rfl ?_
    exact ⟨rfl, ff⟩
end Go.Proofs.Ytlajfmpgodcbmaa
