/- What the putting of var numbers and of texts does. -/
import Derived.Test.YtiokabhidjafeaaDoorCodecP
import Derived.Test.YtiokabhidjafeaaDoorCodecV
namespace Go.Proofs.YtiokabhidjafeaaDoor
open Go.RowKit Go.Shelf
attribute [local go_sem] Oper.semAt_some

/-- The bytes of a var number, of at most k + 1 digits. -/
def varD : Nat → Nat → List UInt8
  | 0, n => [UInt8.ofNat n]
  | k + 1, n => if n < 128 then [UInt8.ofNat n] else UInt8.ofNat (128 + n % 128) :: varD k (n / 128)
def varB (n : Nat) : List UInt8 := varD 4 n

set_option maxHeartbeats 400000 in
theorem cdigits_any (n : Int) (w : World) :
    Calls Tryd.prog 79 #[.int .u32 n] w fun r w' => r = .returned (.func (.func 101) #[] #[.pointer (some ⟨w.heap.size, 0, none⟩)]) ∧ w.alloc (.cells #[.int .u32 n] 22) = w' := by
  go_enter Tryd.func79, Tryd.ntmps79
  go_wp2
  go_ret
  exact ⟨rfl, rfl⟩

theorem or128 (n : Nat) : bits BinOp.or IntKind.u8 ((n : Int) % 256) 128 = (((UInt8.ofNat (128 + n % 128)).toNat : Nat) : Int) := by
  have e : ((n : Int) % 256) = ((n % 256 : Nat) : Int) := by omega
  have e2 : (128 : Int) = ((128 : Nat) : Int) := rfl
  rw [e, e2, u8_or_nat _ _ (Nat.mod_lt _ (by decide)) (by decide), UInt8.toNat_ofNat']
  congr 1
  have h1 : n % 256 ||| 128 = 128 + n % 128 := by
    have h2 : n % 256 = n % 128 ∨ n % 256 = 128 + n % 128 := by omega
    have h3 : n % 128 < 2 ^ 7 := Nat.mod_lt _ (by decide)
    rcases h2 with h2 | h2
    · rw [h2, Nat.or_comm, nat_join 7 128 _ (by decide) h3]
    · rw [h2, ← nat_join 7 128 (n % 128) (by decide) h3, Nat.or_comm, ← Nat.or_assoc, Nat.or_self]
  rw [h1]
  omega

set_option maxRecDepth 100000 in
set_option maxHeartbeats 1000000 in
theorem digits_stops (Bn n : Nat) (hn : n < 4294967296) (w : World) (hB : Blk w Bn 22 #[.int .u32 n]) :
    SeqStopsK Fence.wide 8 Tryd.prog 101 #[.pointer (some ⟨Bn, 0, none⟩)] (fun c : UInt8 => #[.int .u8 c.toNat]) (fun _ _ => True) (fun xs => xs = varB n) (fun _ => True) 9 w := fun l0 J Jx W hW hJ hJx hY h0 => by
  have hBW : Blk W Bn 22 #[.int .u32 n] := (hW.block Bn hB.lt).trans hB
  have c0 : W.cell? ⟨Bn, 0, none⟩ = some (.int .u32 n) := hBW.cell 0 rfl
  refine callsIn_of_wp Tryd.func101 rfl trivial ?_ rfl
  simp only [Tryd.ntmps101, List.size_toArray, List.length_cons, List.length_nil, Nat.reduceAdd, Nat.reduceSub, Array.replicate_succ, Array.replicate_zero, List.push_toArray, List.append_toArray, List.nil_append, List.cons_append]
  gi_wp2
  clear c0
  gi_loopw [3] (fun i wr => ∃ k m : Nat, i = .int .u32 m ∧ m < 128 ^ (k + 1) ∧ m < 4294967296 ∧ k ≤ 4 ∧ ∃ pre, pre.length = 4 - k ∧ varB n = pre ++ varD k m ∧ J pre wr) (fun i _ => (intOf i).toNat)
  case atStart => exact ⟨4, n, rfl, by omega, hn, by omega, [], rfl, rfl, h0⟩
  case round =>
    obtain ⟨k, m, rfl, hm, hm2, hk, pre, hp1, hp2, hJs⟩ := hrel
    by_cases hlt : m < 128
    · have hd : varD k m = [UInt8.ofNat m] := by cases k <;> simp [varD, hlt]
      obtain ⟨fn, tmps, assign, body, hy, hR⟩ := hY pre (UInt8.ofNat m) wr hJs (by omega)
      have e1 : ((UInt8.ofNat m).toNat : Int) = (m : Int) := by rw [UInt8.toNat_ofNat']; omega
      rw [e1] at hy
      gi_wp2
      refine hR.mono ?_
      rintro e W3 (⟨rfl, hJ3, _⟩ | ⟨rfl, hJx3⟩)
      · gi_wp2
        go_end0
        exact ⟨⟨_, rfl⟩, .inl ⟨_, rfl, by rw [hp2, hd]; exact hJ3⟩⟩
      · gi_wp2
        go_end0
        exact ⟨⟨_, rfl⟩, .inr ⟨_, trivial, hJx3⟩⟩
    · have hk0 : k ≠ 0 := by rintro rfl; omega
      obtain ⟨k, rfl⟩ : ∃ j, k = j + 1 := ⟨k - 1, by omega⟩
      have hd : varD (k + 1) m = UInt8.ofNat (128 + m % 128) :: varD k (m / 128) := by simp [varD, hlt]
      obtain ⟨fn, tmps, assign, body, hy, hR⟩ := hY pre (UInt8.ofNat (128 + m % 128)) wr hJs (by omega)
      rw [← or128 m] at hy
      gi_wp2
      refine hR.mono ?_
      rintro e W3 (⟨rfl, hJ3, _⟩ | ⟨rfl, hJx3⟩)
      · gi_wp2
        go_roundw
        case rel =>
          refine ⟨k, m / 128, by first | rfl | (congr 1), ?_, by omega, by omega, pre ++ [UInt8.ofNat (128 + m % 128)], by simp [hp1]; omega, by rw [hp2, hd]; simp, hJ3⟩
          rw [Nat.pow_succ] at hm
          exact Nat.div_lt_of_lt_mul (by rw [Nat.mul_comm]; exact hm)
        case measure => simp [intOf]; omega
      · gi_wp2
        refine bodyPost_ret (results_none rfl _ _ _) rfl ?_
        exact ⟨⟨_, rfl⟩, .inr ⟨_, trivial, hJx3⟩⟩

theorem OwnFrom.up {β : Type} {B B' : Nat} {I : β → World → Prop} (h : OwnFrom B I) (hB : B ≤ B') : OwnFrom B' I := fun s W W' row hs hg hr => h s W W' row hs hg fun r e => ⟨Nat.le_trans hB (hr r e).1, (hr r e).2⟩

set_option maxRecDepth 100000 in
set_option maxHeartbeats 1000000 in
theorem wvar_gen (p : Option Addr) (n : Nat) (hn : n < 4294967296) (w : World) (St : List UInt8 → World → Prop) (hSt : OwnFrom w.heap.size St) (h0 : St [] w)
    (hput : ∀ pre (c : UInt8) W, pre.length < 9 → St pre W → w.heap.size < W.heap.size → Calls Tryd.prog 78 #[.pointer p, .int .u8 c.toNat] W fun e W' => e = .returned (.tuple #[]) ∧ St (pre ++ [c]) W' ∧ KeepsOthers W W' ∧ (∀ t cs, Blk W w.heap.size t cs → Blk W' w.heap.size t cs)) :
    Calls Tryd.prog 58 #[.pointer p, .int .u32 n] w fun e W' => e = .returned (.tuple #[]) ∧ St (varB n) W' := by
  refine (callsIn_wide (n := 9)).1 ?_
  have Hput := Lib.hid hput
  clear hput
  refine callsIn_of_wp_marks Tryd.func58 rfl trivial ?_ rfl
  simp only [Tryd.ntmps58, List.size_toArray, List.length_cons, List.length_nil, Nat.reduceAdd, Nat.reduceSub, Array.replicate_succ, Array.replicate_zero, List.push_toArray, List.append_toArray, List.nil_append, List.cons_append]
  gi_wp2_with (refine ⟨trivial, ?_⟩; gi_at_call 79; refine (callsIn_wide.2 (cdigits_any n _)).mono ?_; rintro e w' ⟨rfl, rfl⟩)
  have hBn := Blk.alloc (w.alloc (.cells #[.pointer p] 143)) 22 #[.int .u32 n]
  have hB0 := (Blk.alloc w 143 #[.pointer p]).old (.cells #[.int .u32 n] 22)
  refine wpIn_rangeFunc_ownF rfl (by omega) (gf := 101) (lb := #[.pointer (some ⟨w.heap.size + 1, 0, none⟩)]) rfl trivial (enters_of Tryd.func101 (by kernel_rfl) rfl)
    (digits_stops (w.heap.size + 1) n hn _ (by simpa using hBn)) (fun _ _ => trivial) (fun _ _ _ _ _ _ _ _ => trivial) (Below.refl _ _) (fun _ => rfl)
    (fun pre W => St pre W ∧ Blk W w.heap.size 143 #[.pointer p]) (fun _ _ _ => False)
    (OwnFrom.and (OwnFrom.up hSt (by simp; omega)) (fun _ _ _ _ hb hg hr => hb.turned hg fun r e => (hr r e).2)) (fun _ _ _ _ _ h _ _ => h) ⟨hSt.alloc _ (hSt.alloc _ h0), hB0⟩
    (fun x => { tmps := #[.pointer p, .int .u32 n, .pointer (some ⟨w.heap.size, 0, none⟩), undef, .int .u8 x.toNat, .int .u32 n, .func (.func 101) #[] #[.pointer (some ⟨w.heap.size + 1, 0, none⟩)], .int .u8 x.toNat, undef, undef, undef], defers := [] }) ?assign ?body ?done ?stop
  case assign =>
    intro l0 x W K hK
    gi_wp2
    exact hK
  case body =>
    rintro l0 pre x W ⟨hs, hb⟩ hpre
    have c0 : W.cell? ⟨w.heap.size, 0, none⟩ = some (.pointer p) := hb.cell 0 rfl
    have hp := Lib.hid (Hput.out pre x W hpre hs hb.lt)
    gi_wp2_with fail
    refine ⟨trivial, (CallsIn.inRound l0 (callsIn_wide.2 hp.out)).mono ?_⟩
    rintro e W1 ⟨rfl, hs1, hk, hb1⟩
    gi_wp2
    exact ⟨hk, trivial, hs1, hb1 _ _ hb⟩
  case done =>
    rintro D xs W hD rfl ⟨hs, hb⟩ hK
    gi_wp2
    refine ⟨by simp, .inl ⟨_, _, rfl, run_takeDeferred hK, ?_⟩⟩
    refine ⟨.tuple #[], results_none rfl _ _ _, rfl, ?_⟩
    exact hSt _ _ _ (some D) hs (grownBy_putObj' W D (.deferred none)) (fun r e => by cases e; exact ⟨by simp at hD; omega, _, hK, rfl⟩)
  case stop =>
    rintro D c pre W _ _ h _
    exact h.elim

theorem Wr.isC {w : World} {b : Nat} {s : List UInt8} {fp : List Nat} (h : Wr w b s fp) : ∀ k o, k ∈ fp → w.heap[k]? = some o → o.isCells = true := by
  intro k o hk ho
  rcases h.2 with ⟨_, rfl, hb⟩ | ⟨p, v, rfl, hb, hp, hr, _⟩
  · obtain rfl : k = b := by simpa using hk
    exact hb.isCells _ o rfl ho
  · rcases List.mem_cons.1 hk with rfl | hk
    · exact hb.isCells _ o rfl ho
    · rcases List.mem_cons.1 hk with rfl | hk
      · exact hp.isCells _ o rfl ho
      · obtain ⟨o', ho', hc⟩ := hr.isC k (by simpa using hk)
        rw [ho] at ho'
        cases ho'
        exact hc
theorem Wr.turned {w w' : World} {b : Nat} {s : List UInt8} {fp : List Nat} {row : Option Nat} (h : Wr w b s fp) (hg : w.grownBy w' row) (hr : ∀ r, row = some r → ∃ o : Obj, w.heap[r]? = some o ∧ o.isCells = false) : Wr w' b s fp := by
  refine h.keep (X := fun k => row = some k) ((Frm.refl _ w).grown hg fun k _ e => e) fun k hk e => ?_
  obtain ⟨o, ho, hc⟩ := hr k e
  rw [h.isC k o hk ho] at hc
  cases hc

theorem varD_len (k : Nat) : ∀ n, (varD k n).length ≤ k + 1 := by
  induction k with
  | zero => intro n; simp [varD]
  | succ k ih =>
    intro n
    unfold varD
    split
    · simp
    · simp only [List.length_cons]; have := ih (n / 128); omega
theorem varB_len (n : Nat) : (varB n).length ≤ 5 := varD_len 4 n

/-- A var number is put behind what was written. -/
theorem wvar_any (b : Nat) (s : List UInt8) (fp : List Nat) (n : Nat) (hn : n < 4294967296) (w : World) (h : Wr w b s fp) (hl : s.length + 9 ≤ 70368744177664) :
    Calls Tryd.prog 58 #[.pointer (some ⟨b, 0, none⟩), .int .u32 n] w fun e W' => e = .returned (.tuple #[]) ∧
      ∃ fp', Wr W' b (s ++ varB n) fp' ∧ Frm (· ∈ fp) w W' ∧ ∀ k ∈ fp', k ∈ fp ∨ w.heap.size ≤ k := by
  refine (wvar_gen (some ⟨b, 0, none⟩) n hn w (fun pre W => ∃ fp', Wr W b (s ++ pre) fp' ∧ Frm (· ∈ fp) w W ∧ ∀ k ∈ fp', k ∈ fp ∨ w.heap.size < k) ?_ ?_ ?_).mono ?_
  · intro pre W W' row hs hg hr
    obtain ⟨fp', h1, h2, h3⟩ := hs
    exact ⟨fp', h1.turned hg fun r e => (hr r e).2, h2.turned (Nat.le_refl _) hg hr, h3⟩
  · exact ⟨fp, by simpa using h, Frm.refl _ _, fun k hk => .inl hk⟩
  · intro pre c W hl2 hs hlt
    obtain ⟨fp', h1, h2, h3⟩ := hs
    have hraw := raw_of b (s ++ pre) (beB 1 c.toNat) fp' W h1 (by rw [List.length_append, beB_len]; omega)
    refine (put_u8 (some ⟨b, 0, none⟩) c.toNat c.toNat_lt W (fun e w'' => e = .returned (.tuple #[]) ∧ ∃ fp2, Wr w'' b (s ++ pre ++ beB 1 c.toNat) fp2 ∧ Frm (· ∈ fp') W w'' ∧ ∀ k ∈ fp2, k ∈ fp' ∨ W.heap.size ≤ k) (fun w' hf => (hraw w' hf).mono fun e w'' ⟨a1, a2⟩ => ⟨a1, a1, a2⟩)).mono ?_
    rintro e W1 ⟨rfl, fp2, a1, a2, a3⟩
    have hc : beB 1 c.toNat = [c] := by simp [beB]
    refine ⟨rfl, ⟨fp2, by rw [← List.append_assoc, ← hc]; exact a1, h2.next a2 (fun k hk hk2 => ?_), fun k hk => ?_⟩, a2.others h1.isC, fun t cs hb => hb.keep a2 fun hk => ?_⟩
    · rcases h3 k hk2 with e | e
      · exact e
      · omega
    · rcases a3 k hk with e | e
      · exact h3 k e
      · exact .inr (by omega)
    · rcases h3 _ hk with e | e
      · have := h.lt _ e; omega
      · omega
  · rintro e W ⟨rfl, fp', h1, h2, h3⟩
    exact ⟨rfl, fp', h1, h2, fun k hk => (h3 k hk).imp id fun e => Nat.le_of_lt e⟩

/-- How a call that writes ends: the writer has s, its own blocks are elder ones of its own and new ones. -/
def WrTo (b : Nat) (s : List UInt8) (fp : List Nat) (w : World) (e : Ending) (W : World) : Prop :=
  e = .returned (.tuple #[]) ∧ ∃ fp', Wr W b s fp' ∧ Frm (· ∈ fp) w W ∧ ∀ k ∈ fp', k ∈ fp ∨ w.heap.size ≤ k
theorem wu8_any (b : Nat) (s : List UInt8) (fp : List Nat) (n : Nat) (hn : n < 256) (w : World) (h : Wr w b s fp) (hl : s.length + 4 ≤ 70368744177664) :
    Calls Tryd.prog 56 #[.pointer (some ⟨b, 0, none⟩), .int .u8 n] w (WrTo b (s ++ beB 1 n) fp w) :=
  w_u8 _ n hn w _ fun w' hf => (raw_of b s (beB 1 n) fp w h (by rw [beB_len]; omega) w' hf).mono fun _ _ ⟨a1, a2⟩ => ⟨a1, a1, a2⟩
/-- A writer of a law's own, behind some writing. -/
structure Own1 (w W : World) (b : Nat) (s : List UInt8) : Prop where
  wr : ∃ fp, Wr W b s fp ∧ ∀ k ∈ fp, w.heap.size ≤ k
  frm : Frm (fun _ => False) w W
theorem Own1.step {w W W' : World} {b : Nat} {t : List UInt8} {fp : List Nat} {e : Ending} (hf : Frm (fun _ => False) w W) (hfp : ∀ k ∈ fp, w.heap.size ≤ k) (h : WrTo b t fp W e W') : e = .returned (.tuple #[]) ∧ Own1 w W' b t := by
  obtain ⟨rfl, fp', h1, h2, h3⟩ := h
  exact ⟨rfl, ⟨fp', h1, fun k hk => (h3 k hk).elim (hfp k) fun e => Nat.le_trans hf.size e⟩, hf.next h2 fun k hk hY => by have := hfp k hY; omega⟩
end Go.Proofs.YtiokabhidjafeaaDoor

