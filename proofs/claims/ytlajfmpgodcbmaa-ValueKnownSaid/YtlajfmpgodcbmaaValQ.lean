/- What the document's Put, MayContent, PutContent answer. Of any value and content that are no longer than can be. -/
import Derived.Test.YtlajfmpgodcbmaaValP
namespace Go.Proofs.Ytlajfmpgodcbmaa
open Go.RowKit

set_option maxRecDepth 100000 in
set_option maxHeartbeats 4000000 in
theorem rput_any7 (d : Bool) (s : Int) (c : Value) (l : List Nat) (w : World) (hs : I64 s) (h : Ids w c l) (hfit : ∀ x ∈ l, x < 4294967296) :
    Calls Try.prog 20 #[.agg (av d s c)] w fun e w' => e = .returned (.tuple #[.string (bs (putV d s l).1), .int .i64 (putV d s l).2]) ∧ Frm (fun _ => False) w w' := by
  have b0 : Blk (w.alloc (.cells (av d s c) 24)) w.heap.size 24 (av d s c) := Blk.alloc w _ _
  have g0 : Frm (fun _ => False) w (w.alloc (.cells (av d s c) 24)) := (Frm.refl _ w).alloc _
  have CK := may_any d s c l _ hs (h.keepF g0)
  cases hok : okV d s l with
  | false =>
    have hp : putV d s l = ([], 4) := by unfold putV; rw [hok]; rfl
    rw [hp]
    rw [hok] at CK
    have HCK := Lib.hid CK
    clear CK hp hok
    go_enter Try.func20, Try.ntmps20
    go_wp2_with fail
    refine HCK.out.mono ?_
    rintro e w1 ⟨rfl, g1⟩
    go_wp2_with fail
    refine bodyPost_ret (v := .tuple #[.string ⟨#[]⟩, .int .i64 4]) (by simp [results, Try.results20, go_sem]) rfl ?_
    exact ⟨rfl, g0.trans g1⟩
  | true =>
    have hp : putV d s l = (headB d s.toNat ++ idsB l, 0) := by unfold putV; rw [hok]; rfl
    rw [hp]
    rw [hok] at CK
    have HCK := Lib.hid CK
    obtain ⟨q1, q2, q3, q4⟩ := okV_iff hok
    obtain ⟨n, rfl⟩ : ∃ n : Nat, s = n := ⟨s.toNat, by omega⟩
    have hn : n ≤ 256 := by cases d <;> simp [most] at q2 <;> omega
    have hlen : l.length ≤ 4 := by rw [q3]; exact count_le (by omega)
    rw [Int.toNat_natCast]
    obtain ⟨a, cap, rfl, hc1, hc2⟩ := h.slice
    cases d with
    | true =>
      have hl0 : l = [] := by
        have e : n = 0 := by simp [most] at q2; omega
        subst e
        exact List.eq_nil_of_length_eq_zero (by rw [q3]; rfl)
      subst hl0
      clear CK hp hok q1 q2 q3 q4 hs
      go_enter Try.func20, Try.ntmps20
      go_wp2_with fail
      refine HCK.out.mono ?_
      rintro e w1 ⟨rfl, g1⟩
      have y0 := (b0.keep g1 (fun h => h)).cell 0 rfl
      go_wp2_with fail
      refine bodyPost_ret (v := .tuple #[.string ⟨#[1]⟩, .int .i64 0]) (by simp [results, Try.results20, go_sem]) rfl ?_
      exact ⟨rfl, g0.trans g1⟩
    | false =>
      clear CK hp hok q1 q2 q3 q4 hs
      have hn2 : ((n : Int) % 4294967296) = n := by omega
      have hx0 : headB false n = [0] ++ beB 2 n := rfl
      rw [hx0]
      clear hx0
      go_enter Try.func20, Try.ntmps20
      go_wp2_with fail
      refine HCK.out.mono ?_
      rintro e w1 ⟨rfl, g1⟩
      have b1 := b0.keep g1 (fun h => h)
      have y0 := b1.cell 0 rfl
      have y1 := b1.cell 1 rfl
      have k1 := g0.trans g1
      go_wp2_with fail
      refine (refFixed_any n 2 (by omega) (by decide) _).mono ?_
      rintro e w2 ⟨rfl, g2⟩
      have b2 := b1.keep g2 (fun h => h)
      have k2 := k1.trans g2
      have hsz : (bs (beB 2 n)).size ≤ 2 := by rw [bs_size, beB_len]; omega
      have hz0 : (⟨#[0]⟩ : ByteArray) = bs [0] := rfl
      have happ : bs [0] ++ bs (beB 2 n) = bs ([0] ++ beB 2 n ++ idsB []) := by rw [bs_append, idsB_nil, List.append_nil]
      have Happ := Lib.hid happ
      clear b0 b1 y0 y1 g0 g1 k1 g2 happ HCK hn2
      go_wp2_with fail
      clear hz0 hsz
      have Y2 := Lib.hid (b2.cell 2 rfl)
      go_loopw [4, 5] (fun v i wr => ∃ k : Nat, k ≤ l.length ∧ i = .int .i64 k ∧ v = .string (bs ([0] ++ beB 2 n ++ idsB (l.take k))) ∧ Frm (fun _ => False) w2 wr) (fun _ i _ => l.length - (intOf i).toNat)
      case atStart => exact ⟨0, Nat.zero_le _, rfl, by rw [List.take_zero, ← Happ.out], Frm.refl _ _⟩
      case round =>
        obtain ⟨k, hk, rfl, rfl, fr⟩ := hrel
        have y2 := fr.cellF' Y2.out
        by_cases hlt : k < l.length
        · obtain ⟨g, off, rfl, _, cl⟩ := (h.keepF (k2.trans fr)).at k hlt
          have hx := hfit l[k] (List.getElem_mem hlt)
          have hsz : (bs ([0] ++ beB 2 n ++ idsB (l.take k))).size ≤ 30 := by rw [bs_size, List.length_append, List.length_append, idsB_len, beB_len, List.length_take]; simp; omega
          have he : ([0] ++ beB 2 n ++ idsB (l.take k)) ++ beB 4 l[k] = [0] ++ beB 2 n ++ idsB (l.take (k + 1)) := by
            rw [List.take_succ_eq_append_getElem hlt, idsB_snoc, ← List.append_assoc]
          have HE := Lib.hid he
          clear he
          obtain ⟨X, hX⟩ : ∃ X, [0] ++ beB 2 n ++ idsB (l.take k) = X := ⟨_, rfl⟩
          simp only [hX] at HE hsz ⊢
          clear hX
          go_wp2_with fail
          refine (refFixed_any l[k] 4 hx (by decide) _).mono ?_
          rintro e w5 ⟨rfl, f5⟩
          have hs5 : (bs (beB 4 l[k])).size ≤ 4 := by rw [bs_size, beB_len]; omega
          clear cl y2
          go_wp2_with fail
          go_roundw
          case rel => exact ⟨k + 1, by omega, by go_num, by rw [← HE.out, bs_append], fr.trans f5⟩
          case measure => simp [intOf]; omega
        · obtain rfl : k = l.length := by omega
          rw [List.take_length]
          go_wp2_with fail
          refine bodyPost_ret (v := .tuple #[.string (bs ([0] ++ beB 2 n ++ idsB l)), .int .i64 0]) (by simp [results, Try.results20, go_sem]) rfl ?_
          exact ⟨rfl, k2.trans fr⟩

set_option maxRecDepth 100000 in
set_option maxHeartbeats 2000000 in
theorem mayc_any (d : Bool) (t : List UInt8) (w : World) (ht : t.length ≤ 3000) :
    Calls Try.prog 44 #[.agg #[.bool d, .string (bs t)]] w fun e w' => e = .returned (.bool (decide (t.length ≤ most d))) ∧ Frm (fun _ => False) w w' := by
  have b0 : Blk (w.alloc (.cells #[.bool d, .string (bs t)] 45)) w.heap.size 45 #[.bool d, .string (bs t)] := Blk.alloc w _ _
  have g0 : Frm (fun _ => False) w (w.alloc (.cells #[.bool d, .string (bs t)] 45)) := (Frm.refl _ w).alloc _
  have c0 := b0.cell 0 rfl
  have c1 := b0.cell 1 rfl
  have hz : (bs t).size = t.length := rfl
  cases d with
  | true =>
    have e : decide (t.length ≤ most true) = ((bs t).toList == []) := by
      rw [bs_toList]; cases t <;> simp [most]
    rw [e]
    clear e
    obtain ⟨q, hq⟩ : ∃ q, ((bs t).toList == []) = q := ⟨_, rfl⟩
    rw [hq]
    cases q with
    | true =>
      go_enter Try.func44, Try.ntmps44
      go_wp2_with fail
      go_ret
      exact ⟨rfl, g0⟩
    | false =>
      go_enter Try.func44, Try.ntmps44
      go_wp2_with fail
      go_ret
      exact ⟨rfl, g0⟩
  | false =>
    have e : decide (t.length ≤ most false) = decide (((bs t).size : Int) ≤ 256) := by
      rw [decide_eq_decide, hz]; simp [most]; omega
    rw [e]
    clear e
    obtain ⟨q, hq⟩ : ∃ q, decide (((bs t).size : Int) ≤ 256) = q := ⟨_, rfl⟩
    rw [hq]
    have hq' : ((bs t).size ≤ 256) = (q = true) := by rw [← hq]; simp; omega
    clear hz
    cases q with
    | true =>
      go_enter Try.func44, Try.ntmps44
      go_wp2_with fail
      go_ret
      exact ⟨rfl, g0⟩
    | false =>
      go_enter Try.func44, Try.ntmps44
      go_wp2_with fail
      go_ret
      exact ⟨rfl, g0⟩

set_option maxRecDepth 100000 in
set_option maxHeartbeats 4000000 in
theorem rputc_any (d : Bool) (t : List UInt8) (w : World) (ht : t.length ≤ 3000) :
    Calls Try.prog 22 #[.agg #[.bool d, .string (bs t)]] w fun e w' => e = .returned (.tuple #[.string (bs (putC d t).1), .int .i64 (putC d t).2]) ∧ Frm (fun _ => False) w w' := by
  have b0 : Blk (w.alloc (.cells #[.bool d, .string (bs t)] 45)) w.heap.size 45 #[.bool d, .string (bs t)] := Blk.alloc w _ _
  have g0 : Frm (fun _ => False) w (w.alloc (.cells #[.bool d, .string (bs t)] 45)) := (Frm.refl _ w).alloc _
  have CK := fun W => mayc_any d t W ht
  by_cases hok : t.length ≤ most d
  · have hp : putC d t = (headB d t.length ++ t, 0) := by unfold putC; rw [if_pos hok]
    rw [hp]
    simp only [decide_eq_true hok] at CK
    have HCK := Lib.hid CK
    clear CK hp
    cases d with
    | true =>
      obtain rfl : t = [] := List.eq_nil_of_length_eq_zero (Nat.le_zero.1 (show t.length ≤ 0 from hok))
      go_enter Try.func22, Try.ntmps22
      go_wp2_with fail
      refine (HCK.out _).mono ?_
      rintro e w1 ⟨rfl, g1⟩
      have y0 := (b0.keep g1 (fun h => h)).cell 0 rfl
      go_wp2_with fail
      refine bodyPost_ret (v := .tuple #[.string ⟨#[1]⟩, .int .i64 0]) (by simp [results, Try.results22, go_sem]) rfl ?_
      exact ⟨rfl, g0.trans g1⟩
    | false =>
      have HF0 : ∀ W, Calls Try.prog 42 #[.int .u32 ((bs t).size : Nat), .int .i64 2] W fun e w' => e = .returned (.string (bs (beB 2 t.length))) ∧ Frm (fun _ => False) W w' := fun W => refFixed_any (bs t).size 2 (by rw [bs_size]; omega) (by decide) W
      have hsz0 : (bs [0]).size = 1 := rfl
      have hx0 : headB false t.length ++ t = [0] ++ beB 2 t.length ++ t := rfl
      rw [hx0]
      clear hx0 hok
      have hw : IntKind.u32.wrap ((bs t).size : Int) = ((bs t).size : Int) := by rw [IntKind.wrap_u32, bs_size]; omega
      have hs1 : (bs (beB 2 t.length)).size ≤ 2 := by rw [bs_size, beB_len]; omega
      have hs2 : (bs ([0] ++ beB 2 t.length)).size ≤ 3 := by rw [bs_size, List.length_append, beB_len]; simp
      have hs3 : (bs t).size ≤ 3000 := ht
      have hz0 : (⟨#[0]⟩ : ByteArray) = bs [0] := rfl
      have happ : bs [0] ++ bs (beB 2 t.length) = bs ([0] ++ beB 2 t.length) := bs_append _ _
      have happ2 : bs ([0] ++ beB 2 t.length) ++ bs t = bs ([0] ++ beB 2 t.length ++ t) := bs_append _ _
      obtain ⟨A, hA⟩ : ∃ A, bs ([0] ++ beB 2 t.length) = A := ⟨_, rfl⟩
      obtain ⟨B, hB⟩ : ∃ B, bs ([0] ++ beB 2 t.length ++ t) = B := ⟨_, rfl⟩
      obtain ⟨C, hC⟩ : ∃ C, bs (beB 2 t.length) = C := ⟨_, rfl⟩
      simp only [hA, hB, hC] at happ happ2 hs1 hs2 HF0 ⊢
      have HF := Lib.hid HF0
      clear hA hB hC HF0
      have hn1 : ¬ (9223372036854775807 < 1 + C.size) := by omega
      have hn2 : ¬ (9223372036854775807 < A.size + (bs t).size) := by omega
      go_enter Try.func22, Try.ntmps22
      go_wp2_with fail
      refine (HCK.out _).mono ?_
      rintro e w1 ⟨rfl, g1⟩
      have b1 := b0.keep g1 (fun h => h)
      have y0 := b1.cell 0 rfl
      have y1 := b1.cell 1 rfl
      have k1 := g0.trans g1
      go_wp2_with fail
      refine wp_region_canon (fun W => W.cell? ⟨w.heap.size, 1, none⟩ = some (.string (bs t)) ∧ Frm (fun _ => False) w W) (by kernel_rfl) rfl (by kernel_rfl) (by kernel_rfl) (⟨y1, k1.drew⟩) ?_
      repeat' first
        | (refine CanonL.skip (by rfl) ?_; (try simp only [Act.put, List.setIfInBounds_toArray, List.set_cons_zero, List.set_cons_succ]))
        | (refine CanonL.callQ (by rfl) (by rfl) ?_ HF ?_ ?_; (focus (intro w; go_simp; (try (with_reducible rfl)); done)); (focus (rintro w ww hs gg; exact ⟨gg.cellF' hs.1, hs.2.trans gg⟩)); (try simp only [Act.put, List.setIfInBounds_toArray, List.set_cons_zero, List.set_cons_succ]))
        | (refine CanonL.val (v := ?_) (by rfl) ?_ ?_; rotate_left 1; (focus (intro w hSw; (try dsimp only at hSw); go_simp; (try (with_reducible rfl)); done)); (try simp only [Act.put, List.setIfInBounds_toArray, List.set_cons_zero, List.set_cons_succ]))
      refine CanonL.done ?_
      intro w9 hS9
      obtain ⟨x1, ff⟩ := hS9
      go_wp2_with fail
      refine bodyPost_ret (v := .tuple #[.string B, .int .i64 0]) (by simp [results, Try.results22, go_sem]) rfl ?_
      exact ⟨rfl, ff⟩
  · have hp : putC d t = ([], 4) := by unfold putC; rw [if_neg hok]
    rw [hp]
    simp only [decide_eq_false hok] at CK
    have HCK := Lib.hid CK
    clear CK hp
    go_enter Try.func22, Try.ntmps22
    go_wp2_with fail
    refine (HCK.out _).mono ?_
    rintro e w1 ⟨rfl, g1⟩
    go_wp2_with fail
    refine bodyPost_ret (v := .tuple #[.string ⟨#[]⟩, .int .i64 4]) (by simp [results, Try.results22, go_sem]) rfl ?_
    exact ⟨rfl, g0.trans g1⟩
end Go.Proofs.Ytlajfmpgodcbmaa
