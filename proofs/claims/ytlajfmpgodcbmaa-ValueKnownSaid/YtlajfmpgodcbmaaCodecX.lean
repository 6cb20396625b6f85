/- What the putting of var numbers and of texts does. -/
import Derived.Test.YtlajfmpgodcbmaaCodecP
import Derived.Test.YtlajfmpgodcbmaaCodecV
namespace Go.Proofs.Ytlajfmpgodcbmaa
open Go.RowKit Go.Shelf
attribute [local go_sem] Oper.semAt_some

/-- The bytes of a var number, of at most k + 1 digits. -/
def varD : Nat → Nat → List UInt8
  | 0, n => [UInt8.ofNat n]
  | k + 1, n => if n < 128 then [UInt8.ofNat n] else UInt8.ofNat (128 + n % 128) :: varD k (n / 128)
def varB (n : Nat) : List UInt8 := varD 4 n

theorem or128 (n : Nat) : bits BinOp.or IntKind.u8 ((n : Int) % 256) 128 = (((UInt8.ofNat (128 + n % 128)).toNat : Nat) : Int) := by
  have e : ((n : Int) % 256) = ((n % 256 : Nat) : Int) := by omega
  have e2 : (128 : Int) = ((128 : Nat) : Int) := rfl
  rw [e, e2, u8_or_nat _ _ (Nat.mod_lt _ (by decide)) (by decide), UInt8.toNat_ofNat']
  congr 1
  have h1 : n % 256 ||| 128 = 128 + n % 128 := by
    have h2 : n % 256 = n % 128 ∨ n % 256 = 128 + n % 128 := by omega
    have h3 : n % 128 < 2 ^ 7 := Nat.mod_lt _ (by decide)
    rcases h2 with h2 | h2
    · rw [h2, Nat.or_comm, nat_join 7 128 _ (by decide) h3]
    · rw [h2, ← nat_join 7 128 (n % 128) (by decide) h3, Nat.or_comm, ← Nat.or_assoc, Nat.or_self]
  rw [h1]
  omega

theorem OwnFrom.up {β : Type} {B B' : Nat} {I : β → World → Prop} (h : OwnFrom B I) (hB : B ≤ B') : OwnFrom B' I := fun s W W' row hs hg hr => h s W W' row hs hg fun r e => ⟨Nat.le_trans hB (hr r e).1, (hr r e).2⟩

theorem Wr.isC {w : World} {b : Nat} {s : List UInt8} {fp : List Nat} (h : Wr w b s fp) : ∀ k o, k ∈ fp → w.heap[k]? = some o → o.isCells = true := by
  intro k o hk ho
  rcases h.2 with ⟨_, rfl, hb⟩ | ⟨p, v, rfl, hb, hp, hr, _⟩
  · obtain rfl : k = b := by simpa using hk
    exact hb.isCells _ o rfl ho
  · rcases List.mem_cons.1 hk with rfl | hk
    · exact hb.isCells _ o rfl ho
    · rcases List.mem_cons.1 hk with rfl | hk
      · exact hp.isCells _ o rfl ho
      · obtain ⟨o', ho', hc⟩ := hr.isC k (by simpa using hk)
        rw [ho] at ho'
        cases ho'
        exact hc
theorem Wr.turned {w w' : World} {b : Nat} {s : List UInt8} {fp : List Nat} {row : Option Nat} (h : Wr w b s fp) (hg : w.grownBy w' row) (hr : ∀ r, row = some r → ∃ o : Obj, w.heap[r]? = some o ∧ o.isCells = false) : Wr w' b s fp := by
  refine h.keep (X := fun k => row = some k) ((Frm.refl _ w).grown hg fun k _ e => e) fun k hk e => ?_
  obtain ⟨o, ho, hc⟩ := hr k e
  rw [h.isC k o hk ho] at hc
  cases hc

theorem varD_len (k : Nat) : ∀ n, (varD k n).length ≤ k + 1 := by
  induction k with
  | zero => intro n; simp [varD]
  | succ k ih =>
    intro n
    unfold varD
    split
    · simp
    · simp only [List.length_cons]; have := ih (n / 128); omega
theorem varB_len (n : Nat) : (varB n).length ≤ 5 := varD_len 4 n

/-- What a text is written as. -/
def textB (t : List UInt8) : List UInt8 := varB t.length ++ t
/-- How a call that writes ends: the writer has s, its own blocks are elder ones of its own and new ones. -/
def WrTo (b : Nat) (s : List UInt8) (fp : List Nat) (w : World) (e : Ending) (W : World) : Prop :=
  e = .returned (.tuple #[]) ∧ ∃ fp', Wr W b s fp' ∧ Frm (· ∈ fp) w W ∧ ∀ k ∈ fp', k ∈ fp ∨ w.heap.size ≤ k
theorem wu8_any (b : Nat) (s : List UInt8) (fp : List Nat) (n : Nat) (hn : n < 256) (w : World) (h : Wr w b s fp) (hl : s.length + 4 ≤ 70368744177664) :
    Calls Try.prog 60 #[.pointer (some ⟨b, 0, none⟩), .int .u8 n] w (WrTo b (s ++ beB 1 n) fp w) :=
  w_u8 _ n hn w _ fun w' hf => (raw_of b s (beB 1 n) fp w h (by rw [beB_len]; omega) w' hf).mono fun _ _ ⟨a1, a2⟩ => ⟨a1, a1, a2⟩
theorem wu16_any (b : Nat) (s : List UInt8) (fp : List Nat) (n : Nat) (hn : n < 65536) (w : World) (h : Wr w b s fp) (hl : s.length + 4 ≤ 70368744177664) :
    Calls Try.prog 61 #[.pointer (some ⟨b, 0, none⟩), .int .u16 n] w (WrTo b (s ++ beB 2 n) fp w) :=
  w_u16 _ n hn w _ fun w' hf => (raw_of b s (beB 2 n) fp w h (by rw [beB_len]; omega) w' hf).mono fun _ _ ⟨a1, a2⟩ => ⟨a1, a1, a2⟩
theorem wu32_any (b : Nat) (s : List UInt8) (fp : List Nat) (n : Nat) (hn : n < 4294967296) (w : World) (h : Wr w b s fp) (hl : s.length + 4 ≤ 70368744177664) :
    Calls Try.prog 40 #[.pointer (some ⟨b, 0, none⟩), .int .u32 n] w (WrTo b (s ++ beB 4 n) fp w) :=
  w_u32 _ n hn w _ fun w' hf => (raw_of b s (beB 4 n) fp w h (by rw [beB_len]; omega) w' hf).mono fun _ _ ⟨a1, a2⟩ => ⟨a1, a1, a2⟩
/-- A writer of a law's own, behind some writing. -/
structure Own1 (w W : World) (b : Nat) (s : List UInt8) : Prop where
  wr : ∃ fp, Wr W b s fp ∧ ∀ k ∈ fp, w.heap.size ≤ k
  frm : Frm (fun _ => False) w W
theorem Own1.step {w W W' : World} {b : Nat} {t : List UInt8} {fp : List Nat} {e : Ending} (hf : Frm (fun _ => False) w W) (hfp : ∀ k ∈ fp, w.heap.size ≤ k) (h : WrTo b t fp W e W') : e = .returned (.tuple #[]) ∧ Own1 w W' b t := by
  obtain ⟨rfl, fp', h1, h2, h3⟩ := h
  exact ⟨rfl, ⟨fp', h1, fun k hk => (h3 k hk).elim (hfp k) fun e => Nat.le_trans hf.size e⟩, hf.next h2 fun k hk hY => by have := hfp k hY; omega⟩
end Go.Proofs.Ytlajfmpgodcbmaa
