/- What the document's index does: Add, Drop, Of, Find; Same. No condition. -/
import Derived.Test.YtmdnacboenehkaaHashR
namespace Go.Proofs.Ytmdnacboenehkaa
open Go.RowKit

/-- A call on the document's index: its answer, and the items then. -/
def RfTo (r : Nat) (I' : List (Nat × Nat)) (fq : Nat → Prop) (n : Nat) (w : World) (e : Ending) (w' : World) : Prop :=
  e = .returned (.int .i64 n) ∧ ∃ fq', Rf w' r I' fq' ∧ Frm fq w w' ∧ ∀ k, fq' k → fq k ∨ w.heap.size ≤ k
/-- The items are others now. -/
theorem Rf.put {w w1 w2 : World} {r : Nat} {I' : List (Nat × Nat)} {fq : Nat → Prop} {v v' : Value} (h1 : ∀ k, fq k → k < w.heap.size) (h2 : fq r) (hb : Blk w r 33 #[v]) (h5 : ∀ g, v.ownBlock = some g → fq g ∧ g ≠ r) (f : Frm (fun _ => False) w w1)
    (hf : Frm (fun j => v.ownBlock = some j) w1 w2) (ho : OwnI w2 v' I') (hn : ∀ g, v'.ownBlock = some g → v.ownBlock = some g ∨ w1.heap.size ≤ g) :
    ∃ fq', Rf (w2.setCell ⟨r, 0, none⟩ v') r I' fq' ∧ Frm fq w (w2.setCell ⟨r, 0, none⟩ v') ∧ ∀ k, fq' k → fq k ∨ w.heap.size ≤ k := by
  have hsz : (w2.setCell ⟨r, 0, none⟩ v').heap.size = w2.heap.size := by simp [World.setCell]
  have hrl := hb.lt
  have hfw : Frm fq w w2 := (f.mono (Y := fq) (fun _ _ h => h.elim)).next hf (fun j _ e => (h5 j e).1)
  have hr2 : v'.ownBlock ≠ some r := fun e => (hn r e).elim (fun e => (h5 r e).2 rfl) (fun e => by have := f.size; omega)
  have hb2 : Blk w2 r 33 #[v] := (hb.keep f (fun h => h)).keep hf (fun e => (h5 r e).2 rfl)
  refine ⟨fun j => fq j ∨ (w.heap.size ≤ j ∧ j < w2.heap.size), ⟨fun k hk => ?_, .inl h2, v', hb2.set 0 v', Row.setOther (p := ⟨r, 0, none⟩) ho hr2 _, fun g hg => ⟨?_, fun e => hr2 (e ▸ hg)⟩⟩, hfw.setCell (p := ⟨r, 0, none⟩) (fun _ => h2) _, fun k hk => hk.imp (fun x => x) (·.1)⟩
  · rw [hsz]
    rcases hk with hk | hk
    · exact Nat.lt_of_lt_of_le (h1 k hk) hfw.size
    · exact hk.2
  · rcases hn g hg with e | e
    · exact .inl (h5 g e).1
    · exact .inr ⟨Nat.le_trans f.size e, Row.blk ho g hg⟩

set_option maxRecDepth 100000 in
set_option maxHeartbeats 2000000 in
theorem radd_any (r : Nat) (I : List (Nat × Nat)) (fq : Nat → Prop) (s : List UInt8) (x : Nat) (w : World) (h : Rf w r I fq) (hs : s.length ≤ 9223372036854775807) (hl : I.length ≤ 900000) :
    Calls Try.prog 22 #[.pointer (some ⟨r, 0, none⟩), .string (bs s), .int .u32 x] w (RfTo r (addI I (bk s) x) fq (addR I (bk s) x) w) := by
  by_cases hm : (bk s, x) ∈ I
  · unfold addI addR
    rw [if_pos hm, if_pos hm]
    have h0 := h
    have hi0 : (0 : Int) ≤ (idx (bk s, x) I : Int) := by omega
    go_enter Try.func22, Try.ntmps22
    go_wp2_with fail
    refine (at_yes r I fq s x _ h hs hm).mono ?_
    rintro e w1 ⟨rfl, g1⟩
    go_wp2_with fail
    go_ret
    exact ⟨rfl, fq, h0.keep g1 (fun _ _ h => h), g1.mono (fun _ _ h => h.elim), fun k hk => .inl hk⟩
  · unfold addI addR
    rw [if_neg hm, if_neg hm]
    have hat := at_no r I fq s x w h hs hm
    obtain ⟨h1, h2, v, hb, ho, h5⟩ := h
    have hB : ∀ W, Calls Try.prog 9 #[.string (bs s)] W fun e w' => e = .returned (.int .i64 (bk s : Nat)) ∧ Frm (fun _ => False) W w' := fun W => rbucket_any s W hs
    generalize bk s = k0 at *
    have HB := Lib.hid hB
    have HAT := Lib.hid hat
    clear hB hat hm
    obtain ⟨a, cap, rfl, hc1, hc2⟩ := Row.slice ho
    go_enter Try.func22, Try.ntmps22
    go_wp2_with fail
    refine HAT.out.mono ?_
    rintro e w1 ⟨rfl, g1⟩
    have hb1 := hb.keep g1 (fun h => h)
    have ho1 := ho.keep g1 (fun _ _ h => h)
    have c0 := hb1.cell 0 rfl
    have r0 := hb1.free 0
    go_wp2_with fail
    have hcall : ∀ W, Frm (fun _ => False) w1.drew W → ∃ a' cap' w6, (Builtin.append_ #[31, 31] 31 #[.slice a I.length cap, .slice (some ⟨W.heap.size, 0, none⟩) 1 1]).run Try.prog (W.alloc (.cells #[.int .i64 k0, .int .u32 x] 59)) = .ok (.slice a' (I.length + 1) cap') w6 ∧
        OwnI w6 (.slice a' (I.length + 1) cap') (I ++ [(k0, x)]) ∧ Frm (fun j => Value.ownBlock (.slice a I.length cap) = some j) w1 w6 ∧ (∀ g, Value.ownBlock (.slice a' (I.length + 1) cap') = some g → Value.ownBlock (.slice a I.length cap) = some g ∨ w1.heap.size ≤ g) ∧
        W.cell? ⟨r, 0, none⟩ = some (.slice a I.length cap) ∧ (W.alloc (.cells #[.int .i64 k0, .int .u32 x] 59)).cell? ⟨r, 0, none⟩ = some (.slice a I.length cap) ∧ w6.cell? ⟨r, 0, none⟩ = some (.slice a I.length cap) ∧ w6.frozen? ⟨r, 0, none⟩ = false := fun W hW => by
      have fW : Frm (fun _ => False) w1 (W.alloc (.cells #[.int .i64 k0, .int .u32 x] 59)) := ((Frm.refl _ w1).drew.trans hW).alloc _
      obtain ⟨v', w6, e1, e2, e3, e4⟩ := append_itms _ _ _ I [(k0, x)] (ho1.keep fW (fun _ _ h => h)) (Its.one W k0 x) (by simp; omega)
      obtain ⟨a', cap', rfl, _, _⟩ := Row.slice e2
      have el : (I ++ [(k0, x)]).length = I.length + 1 := by simp
      rw [el] at e1 e2 e4
      have hb6 := (hb1.keep fW (fun h => h)).beside e3 (fun e => (h5 r e).2 rfl)
      refine ⟨a', cap', w6, e1, e2, (fW.mono (Y := fun j => Value.ownBlock (.slice a I.length cap) = some j) (fun _ _ h => h.elim)).grown e3 (fun _ _ e => e), fun g hg => (e4 g hg).imp (fun x => x) (fun e => Nat.le_trans fW.size e), ?_, ?_, hb6.cell 0 rfl, hb6.free 0⟩
      · exact ((hb1.keep ((Frm.refl _ w1).drew.trans hW) (fun h => h))).cell 0 rfl
      · exact (hb1.keep fW (fun h => h)).cell 0 rfl
    have HCALL := Lib.hid hcall
    clear hcall
    go_region_law (first
      | (refine step_append_run rfl (.tmp 16) (.tmp 21) 31 31 rfl (.slice a I.length cap) (.slice (some ⟨ww.heap.size, 0, none⟩) 1 1) ?h1 ?h2 _ _ Hrun.out ?_; (case h1 => go_simp); (case h2 => go_simp))
      | (go_simp; go_at_call 9; (with_reducible refine (HB.out _).mono ?_); rintro e ww ⟨rfl, gg⟩; obtain ⟨a', cap', w6, hrun, hown, hfr, hnew, d0, d1, d2, d3⟩ := HCALL.out ww gg; have Hrun := Lib.hid hrun; clear hrun))
    all_goals
      go_wp2_with fail
      go_ret
      exact ⟨rfl, Rf.put h1 h2 hb h5 g1 hfr hown hnew⟩

theorem Its.ahead {w : World} {g n cap i : Nat} {l : List (Nat × Nat)} (h : Its w (.slice (some ⟨g, 0, none⟩) n cap) l) (hn : l.length = n) (hi : i < n) : Its w (.slice (some ⟨g, 0, none⟩) i cap) (l.take i) := by
  subst hn
  obtain ⟨a', cap', e, hc, _⟩ := Sl.slice h
  cases e
  have := Sl.take h i cap (by omega) (by omega) (Nat.le_refl _)
  rw [itmsC_take] at this
  exact this.congr (by simp; omega)
theorem Its.behind {w : World} {g n cap i : Nat} {l : List (Nat × Nat)} (h : Its w (.slice (some ⟨g, 0, none⟩) n cap) l) (hn : l.length = n) (hi : i < n) (hc : cap ≠ i + 1) : Its w (.slice (some ⟨g, (i + 1) * 2, none⟩) (n - (i + 1)) (cap - (i + 1))) (l.drop (i + 1)) := by
  subst hn
  have := Sl.drop h (i + 1) (by omega)
  rw [itmsC_drop, if_neg hc] at this
  have e : Option.map (fun x : Addr => x.add ((i + 1) * 2)) (some ⟨g, 0, none⟩) = some ⟨g, (i + 1) * 2, none⟩ := by simp [Addr.add]
  rw [e] at this
  exact this.congr (by simp)
theorem Its.last {w : World} {a : Option Addr} {l : List (Nat × Nat)} (i : Nat) (h : l.length = i + 1) : Its w (.slice a 0 0) (l.drop (i + 1)) := by
  have e : l.drop (i + 1) = [] := List.drop_eq_nil_of_le (by omega)
  rw [e]
  exact Sl.nil_ w 2 a 0 (by decide)

theorem erase_pair (p : Nat × Nat) : ∀ {l : List (Nat × Nat)}, p ∈ l → l.erase p = l.take (idx p l) ++ l.drop (idx p l + 1)
  | y :: l, h => by
    by_cases e : y = p
    · subst e; simp [idx]
    · have h2 : p ∈ l := by
        rcases List.mem_cons.1 h with h | h
        · exact absurd h.symm e
        · exact h
      rw [List.erase_cons_tail (by simpa using e), erase_pair p h2]
      simp [idx, e]
/-- What both appends of Drop leave. -/
def Outs (w1 : World) (r g n cap i : Nat) (I' : List (Nat × Nat)) (s2 : Value) : Prop :=
  ∃ a1 cap1 w2 v2 w3, (Builtin.append_ #[31, 31] 31 #[.slice none 0 0, .slice (some ⟨g, 0, none⟩) i cap]).run Try.prog w1 = .ok (.slice a1 i cap1) w2 ∧
    (Builtin.append_ #[31, 31] 31 #[.slice a1 i cap1, s2]).run Try.prog w2 = .ok v2 w3 ∧ (∃ a m c, v2 = .slice a m c) ∧ OwnI w3 v2 I' ∧ Frm (fun _ => False) w1 w3 ∧ (∀ q, v2.ownBlock = some q → w1.heap.size ≤ q) ∧
    w2.cell? ⟨r, 0, none⟩ = some (.slice (some ⟨g, 0, none⟩) n cap) ∧ w3.cell? ⟨r, 0, none⟩ = some (.slice (some ⟨g, 0, none⟩) n cap) ∧ w3.frozen? ⟨r, 0, none⟩ = false
theorem outs_of (w1 : World) (r g n cap i : Nat) (I I' : List (Nat × Nat)) (s2 : Value) (hb : Blk w1 r 33 #[.slice (some ⟨g, 0, none⟩) n cap]) (ho : OwnI w1 (.slice (some ⟨g, 0, none⟩) n cap) I) (hn : I.length = n) (hi : i < n) (hl : n ≤ 900000)
    (h2 : Its w1 s2 (I.drop (i + 1))) (he : I' = I.take i ++ I.drop (i + 1)) : Outs w1 r g n cap i I' s2 := by
  obtain ⟨v1, w2, e1, e2, e3, e4⟩ := append_itms w1 (.slice none 0 0) _ [] (I.take i) (Row.nil_ w1 2) (ho.its.ahead hn hi) (by simp; omega)
  obtain ⟨a1, cap1, rfl, _, _⟩ := Row.slice e2
  have el : ([] ++ I.take i).length = i := by simp; omega
  rw [el] at e1 e2 e4
  rw [List.nil_append] at e2
  have g2 : Frm (fun _ => False) w1 w2 := (Frm.refl _ w1).grown e3 (fun k hk e => by cases e)
  have n2 : ∀ q, Value.ownBlock (.slice a1 i cap1) = some q → w1.heap.size ≤ q := fun q hq => (e4 q hq).elim (fun e => by cases e) (fun e => e)
  obtain ⟨v2, w3, f1, f2, f3, f4⟩ := append_itms w2 _ s2 (I.take i) (I.drop (i + 1)) e2 (h2.keepF g2) (by simp; omega)
  rw [← he] at f2
  have g3 : Frm (fun _ => False) w1 w3 := g2.grown f3 (fun k hk e => by have := n2 k e; omega)
  obtain ⟨a2, cap2, e, _, _⟩ := Row.slice f2
  have hb3 := hb.keep g3 (fun h => h)
  exact ⟨a1, cap1, w2, v2, w3, e1, f1, ⟨_, _, _, e⟩, f2, g3, fun q hq => (f4 q hq).elim (n2 q) (fun e => Nat.le_trans g2.size e), (hb.keep g2 (fun h => h)).cell 0 rfl, hb3.cell 0 rfl, hb3.free 0⟩

set_option maxRecDepth 100000 in
set_option maxHeartbeats 2000000 in
theorem rdrop_any (r : Nat) (I : List (Nat × Nat)) (fq : Nat → Prop) (s : List UInt8) (x : Nat) (w : World) (h : Rf w r I fq) (hs : s.length ≤ 9223372036854775807) (hl : I.length ≤ 900000) :
    Calls Try.prog 23 #[.pointer (some ⟨r, 0, none⟩), .string (bs s), .int .u32 x] w (RfTo r (I.erase (bk s, x)) fq (dropR I (bk s) x) w) := by
  by_cases hm : (bk s, x) ∈ I
  · unfold dropR
    rw [if_pos hm]
    have hat := at_yes r I fq s x w h hs hm
    have her := erase_pair _ hm
    have hi := idx_lt hm
    generalize idx (bk s, x) I = i at *
    generalize I.erase (bk s, x) = I' at *
    obtain ⟨h1, h2, v, hb, ho, h5⟩ := h
    obtain ⟨g, cap, rfl, hc1, hc2, _, _⟩ := ho.at i hi
    have HAT := Lib.hid hat
    have HE := Lib.hid her
    clear hat her hm
    unfold maxLen at hc2
    have hi0 : (0 : Int) ≤ (i : Int) := by omega
    have e1 : IntKind.i64.wrap ((i : Int) + 1) = (i : Int) + 1 := IntWalk.i64_in _ (by omega)
    have e2 : ((i : Int) + 1).toNat = i + 1 := by omega
    have hi1 : (0 : Int) ≤ (i : Int) + 1 := by omega
    have hi2 : (i : Int) + 1 ≤ (I.length : Int) := by omega
    have hi3 : (i : Int) ≤ (cap : Int) := by omega
    have hcz : ¬ cap = 0 := by omega
    go_enter Try.func23, Try.ntmps23
    go_wp2_with fail
    refine HAT.out.mono ?_
    rintro e w1 ⟨rfl, g1⟩
    have hb1 := hb.keep g1 (fun h => h)
    have ho1 := ho.keep g1 (fun _ _ h => h)
    have c0 := hb1.cell 0 rfl
    by_cases hcc : cap = i + 1
    · subst hcc
      have hi4 : (i : Int) ≤ (i : Int) + 1 := by omega
      have hout := outs_of w1 r g I.length (i + 1) i I I' (.slice (some ⟨g, 0, none⟩) 0 0) hb1 ho1 rfl hi hl (Its.last i (by omega)) HE.out
      obtain ⟨a1, cap1, w2, v2, w3, hr1, hr2, ⟨a2, m2, c2, rfl⟩, hown, gg, hnew, d2, d3, d4⟩ := hout
      have e3 : I.length - (i + 1) = 0 := by omega
      have H1 := Lib.hid hr1
      have H2 := Lib.hid hr2
      clear hr1 hr2
      go_wp2_with (first | (at_builtin; refine Lib.wpList_append_run _ rfl (.tmp 15) (.tmp 21) 31 31 rfl _ _ rfl rfl _ _ H1.out ?_) | (at_builtin; refine Lib.wpList_append_run _ rfl (.tmp 24) (.tmp 31) 31 31 rfl _ _ rfl rfl _ _ H2.out ?_))
      go_ret
      exact ⟨rfl, Rf.put h1 h2 hb h5 g1 (gg.mono (fun _ _ h => h.elim)) hown (fun q hq => .inr (hnew q hq))⟩
    · have hout := outs_of w1 r g I.length cap i I I' _ hb1 ho1 rfl hi hl (Its.behind ho1.its rfl hi hcc) HE.out
      obtain ⟨a1, cap1, w2, v2, w3, hr1, hr2, ⟨a2, m2, c2, rfl⟩, hown, gg, hnew, d2, d3, d4⟩ := hout
      have H1 := Lib.hid hr1
      have H2 := Lib.hid hr2
      clear hr1 hr2
      go_wp2_with (first | (at_builtin; refine Lib.wpList_append_run _ rfl (.tmp 15) (.tmp 21) 31 31 rfl _ _ rfl rfl _ _ H1.out ?_) | (at_builtin; refine Lib.wpList_append_run _ rfl (.tmp 24) (.tmp 31) 31 31 rfl _ _ rfl rfl _ _ H2.out ?_))
      go_ret
      exact ⟨rfl, Rf.put h1 h2 hb h5 g1 (gg.mono (fun _ _ h => h.elim)) hown (fun q hq => .inr (hnew q hq))⟩
  · unfold dropR
    rw [if_neg hm, List.erase_of_not_mem hm]
    have h0 := h
    go_enter Try.func23, Try.ntmps23
    go_wp2_with fail
    refine (at_no r I fq s x _ h hs hm).mono ?_
    rintro e w1 ⟨rfl, g1⟩
    go_wp2_with fail
    go_ret
    exact ⟨rfl, fq, h0.keep g1 (fun _ _ h => h), g1.mono (fun _ _ h => h.elim), fun k hk => .inl hk⟩
end Go.Proofs.Ytmdnacboenehkaa
