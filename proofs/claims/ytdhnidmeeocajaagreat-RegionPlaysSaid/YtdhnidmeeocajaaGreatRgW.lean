/- RegionPlays' reads: both tell the same of a stretch. No condition. -/
import Derived.Test.YtdhnidmeeocajaaGreatRgPm
import Derived.Test.YtdhnidmeeocajaaGreatCanonT
import Derived.Test.YtdhnidmeeocajaaGreatStrs
import Derived.Test.YtdhnidmeeocajaaGreatRgD
import Derived.Deep.RegionHeld3
import Derived.Test.YtdhnidmeeocajaaGreatRgPb
section
namespace Go.Proofs.YtdhnidmeeocajaaGreat
open Go.RowKit Go.Shelf

set_option maxRecDepth 100000 in
set_option maxHeartbeats 4000000 in
theorem reads13_any (l b f x p r : Nat) (fp : Nat → Prop) (L : LV) (q m : Int) (w : World) (hl : LnM w l b f x L) (hr : RLn w p r fp L) (hq : Z64 q) (hm : Z64 m) :
    Calls Tryz.prog 15 #[.pointer (some ⟨l, 0, none⟩), .pointer (some ⟨p, 0, none⟩), .int .i64 q, .int .i64 m] w fun e w' => e = .returned (.bool true) ∧ Frm (fun _ => False) w w' := by
  have hA := rgread_any l b f x L q m w hl hq hm
  have hB := fun (W : World) (gW : Frm (fun _ => False) w W) => refread_any p r fp L q m W (hr.keepF gW) hq hm
  obtain ⟨⟨g, gs, ec⟩, ht⟩ : ∃ t, rdR L q m = t := ⟨_, rfl⟩
  rw [ht] at hA hB
  unfold ReadTo at hA hB
  have HA := Lib.hid hA
  have HB := Lib.hid hB
  have e1 : ((g : Int) == (g : Int)) = true := by simp
  have e2 : ((ec : Int) == (ec : Int)) = true := by simp
  clear hl hr hq hm ht hA hB
  go_enter Tryz.func15, Tryz.ntmps15
  go_wp2_with fail
  refine HA.out.mono ?_
  rintro e w1 ⟨v1, rfl, n1⟩
  have N1 := Lib.hid n1
  have HB1 := Lib.hid (HB.out w1 n1.frm)
  clear n1 HA HB
  go_wp2_with fail
  refine HB1.out.mono ?_
  rintro e w2 ⟨v2, rfl, n2⟩
  have HSm := refsame_any v1 v2 gs w2 (OwnS.reads (N1.out.own.keep n2.frm (fun _ _ h => h))) (OwnS.reads n2.own)
  have HSm := Lib.hid HSm
  have G2 := Lib.hid (N1.out.frm.trans n2.frm)
  clear n2 HB1
  go_wp2_with fail
  refine HSm.out.mono ?_
  rintro e w3 ⟨rfl, g3⟩
  have G3 := Lib.hid (G2.out.trans g3)
  clear g3
  go_wp2_with fail
  go_ret
  exact ⟨rfl, G3.out⟩
end Go.Proofs.YtdhnidmeeocajaaGreat
end
section
namespace Go.Proofs.YtdhnidmeeocajaaGreat
open Go.RowKit

section
variable {P : Program} {ops : Array Oper} {Q : Exit → Act → World → Prop} {S : World → Prop} {F : Act → Prop}
/-- What stands behind the r-th operation. -/
def Behind (P : Program) (ops : Array Oper) (Q : Exit → Act → World → Prop) (ts : List Nat) (a : Act) (w : World) : Prop :=
  ∃ S2 : World → Prop, S2 w ∧ Canon P ops S2 (fun a => ∀ w, S2 w → Q .normal a w) ts a
end
end Go.Proofs.YtdhnidmeeocajaaGreat
end
section
namespace Go.Proofs.YtdhnidmeeocajaaGreat
open Go.RowKit Go.Shelf

def K0 : LV := LV.new (DV.new 256) (-1) []
def K1 : LV := K0.writeAct 5 [97, 98]
def K2 : LV := K1.act K1.D.flush
def K3 : LV := K2.writeAct 5 [120, 121]
def K4 : LV := K3.writeAct 256 []
def K5 : LV := K4.blow
end Go.Proofs.YtdhnidmeeocajaaGreat
end
section
namespace Go.Proofs.YtdhnidmeeocajaaGreat
open Go.RowKit Go.Shelf

theorem LnM.weaken {w : World} {l b f x : Nat} {L : LV} (h : LnM w l b f x L) (P : Nat → Prop) (hP : ∀ g, L.P g → P g) : LnM w l b f x { L with P := P } := by
  obtain ⟨cv, h⟩ := h
  exact ⟨cv, h.blk, h.dev, h.lb, h.lf, h.lx, h.zs, fun e => (h.za e).imp id fun q g hg => ⟨(q g hg).1, (q g hg).2.1, (q g hg).2.2.1, hP g (q g hg).2.2.2⟩, ⟨h.ok.cut, h.ok.cs, h.ok.few⟩⟩
theorem LnM.low2 {w : World} {l b f x : Nat} {L : LV} (h : LnM w l b f x L) : LnM w l b f x { L with P := fun g => L.P g ∧ g < w.heap.size ∧ g ≠ l ∧ g ≠ f ∧ g ≠ x } := by
  obtain ⟨cv, h⟩ := h
  refine ⟨cv, h.blk, h.dev, h.lb, h.lf, h.lx, h.zs, (fun e => ?_), ⟨h.ok.cut, h.ok.cs, h.ok.few⟩⟩
  rcases h.za e with h1 | h1
  · exact .inl h1
  rcases (h.zs e).low with h2 | h2
  · exact .inl h2
  · exact .inr fun g hg => ⟨(h1 g hg).1, (h1 g hg).2.1, (h1 g hg).2.2.1, (h1 g hg).2.2.2, h2 g hg, (h1 g hg).2.2.1, (h1 g hg).1, (h1 g hg).2.1⟩
theorem BothL.start {w0 w1 w2 w3 wr w5 : World} {l b f x r : Nat} {fp : Nat → Prop} {D : DV} {q : Int} {cs : List Int} {v vo : Value}
    (h1 : DevM w1 b f x D) (o1 : w0.heap.size ≤ b ∧ w0.heap.size ≤ f ∧ w0.heap.size ≤ x) (g1 : Frm (fun _ => False) w0 w1)
    (ho : ∀ g, vo.ownBlock = some g → w1.heap.size ≤ g ∧ g < w2.heap.size) (g12 : Frm (fun _ => False) w1 w2)
    (h3 : LnM w3 l b f x { LV.new D q cs (fun g => w2.heap.size ≤ g) with P := fun g => (LV.new D q cs (fun g => w2.heap.size ≤ g)).P g ∧ g < w3.heap.size ∧ g ≠ l ∧ g ≠ f ∧ g ≠ x }) (hl : w2.heap.size ≤ l) (g3 : Frm (fun _ => False) w2 w3)
    (gr : Frm (fun g => vo.ownBlock = some g) w3 wr) (hr : RefM w5 r D fp) (g5 : Frm (fun _ => False) wr w5) (nf : ∀ k, fp k → wr.heap.size ≤ k)
    (hz : Zs w0 v cs) (hok : (LV.new D q cs).ok) :
    BothL w0 (w5.alloc (.cells #[.pointer (some ⟨r, 0, none⟩), .int .i64 q, v, .int .i64 0, .bool false] 36)) l b f x w5.heap.size r fp (LV.new D q cs (fun g => (w2.heap.size ≤ g ∧ g < w3.heap.size ∧ g ≠ l ∧ g ≠ f ∧ g ≠ x) ∨ g < w0.heap.size)) := by
  have a1 := h1.lt
  have a3 := h3.lt
  have z1 := g1.size
  have z12 := g12.size
  have z3 := g3.size
  have zr := gr.size
  have z5 := g5.size
  have g6 : Frm (fun _ => False) w5 (w5.alloc (.cells #[.pointer (some ⟨r, 0, none⟩), .int .i64 q, v, .int .i64 0, .bool false] 36)) := (Frm.refl _ w5).alloc _
  have hlr : LnM wr l b f x { LV.new D q cs (fun g => w2.heap.size ≤ g) with P := fun g => (LV.new D q cs (fun g => w2.heap.size ≤ g)).P g ∧ g < w3.heap.size ∧ g ≠ l ∧ g ≠ f ∧ g ≠ x } :=
    h3.keep gr (fun e => by have := ho _ e; omega) (fun e => by have := ho _ e; omega) (fun e => by have := ho _ e; omega) (fun e => by have := ho _ e; omega) (.inr fun g hg e => by have hg : w2.heap.size ≤ g ∧ g < w3.heap.size ∧ _ := hg; have := ho _ e; omega)
  have hln := (hlr.keepF g5).keepF g6
  have hfr : Frm (fun _ => False) w0 wr := (((g1.trans g12).trans g3).next gr fun k hk e => by have := ho _ e; omega)
  have hfr5 := hfr.trans g5
  have hsz : (w5.alloc (.cells #[.pointer (some ⟨r, 0, none⟩), .int .i64 q, v, .int .i64 0, .bool false] 36)).heap.size = w5.heap.size + 1 := by simp
  refine ⟨hln.weaken _ fun g hg => .inl hg, ⟨v, Blk.alloc w5 _ _, hr.keepF g6, h1.ok, ⟨hok.cut, hok.cs, hok.few⟩, (hz.keepF hfr5).keepF g6, fun e => by have := hr.lt _ e; omega, ?_⟩, ⟨by omega, by omega, by omega, by omega⟩, ⟨fun e => by have := nf _ e; omega, fun e => by have := nf _ e; omega, fun e => by have := nf _ e; omega, fun e => by have := nf _ e; omega⟩, fun g hg => ?_, ⟨by omega, o1.2.1, o1.2.2⟩, ⟨by omega, fun k hk => by have := nf k hk; omega⟩, hfr5.trans g6⟩
  · rcases hz.low with h | h
    · exact .inl h
    · exact .inr fun g hg => ⟨fun e => by have := nf _ e; have := h g hg; omega, by have := h g hg; omega, .inr (h g hg)⟩
  · have hg : (w2.heap.size ≤ g ∧ g < w3.heap.size ∧ g ≠ l ∧ g ≠ f ∧ g ≠ x) ∨ g < w0.heap.size := hg
    have hng : ¬ fp g := fun e => by have := nf _ e; rcases hg with h | h <;> omega
    rcases hg with h | h
    · exact ⟨⟨h.2.2.1, h.2.2.2.1, h.2.2.2.2⟩, by omega, hng, by omega⟩
    · exact ⟨⟨by omega, by omega, by omega⟩, by omega, hng, by omega⟩
end Go.Proofs.YtdhnidmeeocajaaGreat
end
section
namespace Go.Proofs.YtdhnidmeeocajaaGreat

theorem nb_one (s : List UInt8) : nb [s] = needs s.length := Nat.add_zero _
theorem blksAll_snoc (gs : List (List UInt8)) (s : List UInt8) (i : Nat) : blksAll i (gs ++ [s]) = blksAll i gs ++ blks (i + nb gs) s := by
  rw [blksAll_append]
  show _ ++ (blks (i + nb gs) s ++ []) = _
  rw [List.append_nil]
/-- A region of a line that lives: the groups gs were appended, the first fc log blocks are firm, gen was sealed. -/
structure StR (R : RV) (L : LV) (gs : List (List UInt8)) (fc gen : Nat) : Prop where
  bad : R.bad = false
  live : L.down = false
  used : R.used = nb gs
  n256 : R.n ≤ 256
  inv : Live L.D R.at_ R.n (blksAll 1 gs) fc gen
/-- A region of a line that was cut. -/
structure DdR (R : RV) (L : LV) (gs : List (List UInt8)) (fc : Nat) (G : Nat → Prop) : Prop where
  bad : R.bad = true
  down : L.down = true
  n256 : R.n ≤ 256
  inv : Dead L.D R.at_ R.n (blksAll 1 gs) fc G
section
variable {R : RV} {L : LV} {gs : List (List UInt8)} {fc gen : Nat} {G : Nat → Prop}
theorem StR.room (h : StR R L gs fc gen) : R.used + 1 ≤ R.n := by have := h.inv.len; rw [blksAll_len] at this; have := h.used; omega
theorem apR_st (h : StR R L gs fc gen) (s : List UInt8) :
    (R.left < needs s.length ∧ apR R L s = (R, L, 7)) ∨
    (needs s.length ≤ R.left ∧ ∃ L', apR R L s = (⟨R.at_, R.n, R.used + needs s.length, false⟩, L', 0) ∧ L' = (L.seq (wrs (R.at_ + 1 + R.used) (blks (R.used + 1) s))).1 ∧ StR ⟨R.at_, R.n, R.used + needs s.length, false⟩ L' (gs ++ [s]) fc gen) ∨
    (needs s.length ≤ R.left ∧ ∃ L', apR R L s = (⟨R.at_, R.n, R.used, true⟩, L', 8) ∧ (L.seq (wrs (R.at_ + 1 + R.used) (blks (R.used + 1) s))).2 = 8 ∧ DdR ⟨R.at_, R.n, R.used, true⟩ L' (gs ++ [s]) fc (· = gen)) := by
  have hb : ¬ R.bad = true := by rw [h.bad]; exact Bool.false_ne_true
  by_cases hf : R.left < needs s.length
  · exact .inl ⟨hf, by unfold apR; rw [if_neg hb, if_pos hf]⟩
  · right
    have hlen := h.room
    have hfit : R.used + needs s.length + 1 ≤ R.n := by unfold RV.left at hf; omega
    have hw := Live.writes h.n256 (blks (R.used + 1) s) (blksAll 1 gs) L h.live h.inv (by rw [blksAll_len, blks_len, ← h.used]; omega) (fun j t e => by
      rw [blksAll_len, ← h.used]
      have hj : j < needs s.length := by have := (List.getElem?_eq_some_iff.1 e).1; rwa [blks_len] at this
      rw [blks_at _ _ _ hj] at e
      obtain rfl := Option.some.inj e
      exact ⟨_, _, pieceAt_len s j, by unfold blk; rw [show R.used + 1 + j = R.used + j + 1 by omega]⟩)
    rw [blksAll_len, ← h.used] at hw
    have hsn : blksAll 1 gs ++ blks (R.used + 1) s = blksAll 1 (gs ++ [s]) := by rw [blksAll_snoc, h.used, Nat.add_comm 1]
    rw [hsn] at hw
    have hnb : R.used + needs s.length = nb (gs ++ [s]) := by rw [nb_append, nb_one, h.used]
    rcases hw with ⟨h1, h2, h3⟩ | ⟨h1, h2, h3⟩
    · exact .inl ⟨by omega, _, by unfold apR; rw [if_neg hb, if_neg hf, if_pos h1], rfl, ⟨rfl, h2, hnb, h.n256, h3⟩⟩
    · exact .inr ⟨by omega, _, by unfold apR; rw [if_neg hb, if_neg hf, if_neg (by rw [h1]; decide), h1], h1, ⟨rfl, h2, h.n256, h3⟩⟩
theorem DdR.fl (h : DdR R L gs fc G) : flR R L = (R, L, 17) := by unfold flR; rw [if_pos h.bad]
theorem rgC_zero {N A n : Nat} (h1 : 2 ≤ n) (h2 : n ≤ 65536) (h3 : A + n ≤ N) : rgC N (A : Int) (n : Int) = 0 := by unfold rgC; rw [if_neg (by omega)]
theorem rdR_live {A n : Nat} {L' : LV} (hd : L'.down = false) (h1 : 2 ≤ n) (h2 : n ≤ 65536) (h3 : A + n ≤ L'.D.n) : rdR L' (A : Int) (n : Int) = (genOf (L'.D.read A), L'.D.groups A n, 0) := by
  unfold rdR
  rw [if_pos (rgC_zero h1 h2 h3), if_neg (by rw [hd]; exact Bool.false_ne_true), Int.toNat_natCast, Int.toNat_natCast]
/-- A region is read, over whatever line that lives and leads to the device. -/
theorem StR.read (h : StR R L gs fc gen) (hn : 2 ≤ R.n) {L' : LV} (hd : L'.down = false) (hD : L'.D = L.D) : rdR L' (R.at_ : Int) (R.n : Int) = (gen, gs, 0) := by
  have hc := h.inv.contents (by have := h.n256; omega)
  rw [rdR_live hd hn (by have := h.n256; omega) (by rw [hD]; exact h.inv.inn), hD, hc.1, hc.2]
theorem DdR.read (h : DdR R L gs fc G) (hn : 2 ≤ R.n) {L' : LV} (hd : L'.down = false) (hD : L'.D = L.D) : ∃ g m, G g ∧ m ≤ gs.length ∧ (∀ s, s ≤ gs.length → nb (gs.take s) ≤ fc → s ≤ m) ∧ rdR L' (R.at_ : Int) (R.n : Int) = (g, gs.take m, 0) := by
  obtain ⟨h1, m, h2, h3, h4⟩ := h.inv.contents (by have := h.n256; omega)
  exact ⟨_, m, h1, h2, h4, by rw [rdR_live hd hn (by have := h.n256; omega) (by rw [hD]; exact h.inv.inn), hD, h3]⟩
/-- A line that lives is cut without an act. -/
theorem StR.blow (h : StR R L gs fc gen) : DdR ⟨R.at_, R.n, R.used, true⟩ L.blow gs fc (· = gen) := by
  rw [LV.blow_live h.live]
  exact ⟨rfl, rfl, h.n256, h.inv.crash h.n256 L.cs⟩
theorem DdR.blow (h : DdR R L gs fc G) : DdR R L.blow gs fc G := by
  have : L.blow = L := by unfold LV.blow; rw [if_pos h.down]
  rw [this]; exact h
/-- Behind a Format. -/
theorem fmtR_st {A n : Nat} (hd : L.down = false) (hc : ∀ k, k < n + 1 → ((L.acts + k : Nat) : Int) ≠ L.cut) (hok : L.D.ok) (h1 : 2 ≤ n) (h2 : n ≤ 256) (h3 : A + n ≤ L.D.n) :
    (fmtR L (A : Int) (n : Int)).2 = 0 ∧ (fmtR L (A : Int) (n : Int)).1.acts = L.acts + (n + 1) ∧ (fmtR L (A : Int) (n : Int)).1.cut = L.cut ∧ (fmtR L (A : Int) (n : Int)).1.cs = L.cs ∧ (fmtR L (A : Int) (n : Int)).1.P = L.P ∧ (fmtR L (A : Int) (n : Int)).1.D.n = L.D.n ∧
    (∀ k, (fmtR L (A : Int) (n : Int)).1.D.read k = if A ≤ k ∧ k < A + n then zb else L.D.read k) ∧ StR ⟨A, n, 0, false⟩ (fmtR L (A : Int) (n : Int)).1 [] 0 0 := by
  have e : fmtR L (A : Int) (n : Int) = ({ L with D := (fmtA A n).foldl (fun D F => F D) L.D, acts := L.acts + (fmtA A n).length }, 0) := by
    unfold fmtR
    rw [if_pos (rgC_zero h1 (by omega) h3), Int.toNat_natCast, Int.toNat_natCast]
    exact LV.seq_free _ _ hd (fun k hk => hc k (by rwa [fmtA_len] at hk))
  obtain ⟨l1, l2, l3, l4⟩ := fmt_live hok h3 h1
  rw [e]
  exact ⟨rfl, by show L.acts + (fmtA A n).length = _; rw [fmtA_len], rfl, rfl, rfl, l2, l4, ⟨rfl, hd, rfl, h2, l1⟩⟩
/-- A line that no act cuts. -/
def Uc (L : LV) : Prop := L.down = false ∧ L.cut < 0
theorem Uc.seq {L : LV} (h : Uc L) (l : List (DV → DV)) : (L.seq l).2 = 0 ∧ Uc (L.seq l).1 ∧ (L.seq l).1.acts = L.acts + l.length ∧ (L.seq l).1.cs = L.cs ∧ (L.seq l).1.P = L.P ∧ (L.seq l).1.D = l.foldl (fun D F => F D) L.D := by
  rw [LV.seq_free l L h.1 (fun k _ => by have := h.2; omega)]
  exact ⟨rfl, ⟨h.1, h.2⟩, rfl, rfl, rfl, rfl⟩
end
end Go.Proofs.YtdhnidmeeocajaaGreat
end
