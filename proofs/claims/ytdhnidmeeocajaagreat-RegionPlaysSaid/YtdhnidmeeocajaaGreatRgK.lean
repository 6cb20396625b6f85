/- What String and Reset of a strings.Builder answer and leave. No condition. -/
import Derived.Test.YtdhnidmeeocajaaGreatRgI
import Derived.Shelf.RegionOpenPlain
import Derived.Test.YtdhnidmeeocajaaGreatStrs
section
namespace Go.Proofs.YtdhnidmeeocajaaGreat
open Go.RowKit Go.Shelf

theorem Frm.freeze {X : Nat → Prop} {w w' : World} (h : Frm X w w') {p : Addr} (hp : X p.block) (n : Nat) : Frm X w (w'.freeze p n) := by
  unfold World.freeze
  split
  · exact h
  · refine h.trans ⟨rfl, rfl, rfl, by simp, fun k hk hn => ?_⟩
    simp only [Array.getElem?_modify]
    rw [if_neg (fun e => hn (by rw [← e]; exact hp))]
set_option maxRecDepth 100000 in
set_option maxHeartbeats 2000000 in
theorem bstring_full (b : Nat) (v : Value) (s : List UInt8) (w : World) (h : Bd w b v s) (h0 : s ≠ []) (hl : s.length ≤ 100000000) :
    Calls Tryz.prog 62 #[.pointer (some ⟨b, 0, none⟩)] w fun e w' => e = .returned (.string (bs s)) ∧ Frm (fun k => v.ownBlock = some k) w w' := by
  have hl0 : s.length ≠ 0 := by simpa using h0
  obtain ⟨p, hb, _⟩ := h.blk
  have hown := h.own
  obtain ⟨g, cap, cur, rfl, _, hg, hnc, hcm, hcs, htake⟩ : ∃ g cap cur, v = .slice (some ⟨g, 0, none⟩) s.length cap ∧ 0 ≤ g ∧ w.heap[g]? = some (.cells cur 5 (0, 0)) ∧ s.length ≤ cap ∧ cap ≤ maxLen ∧ cur.size = cap * 1 ∧ cur.toList.take (s.length * 1) = u8s s := by
    rcases hown.2 with ⟨_, hz⟩ | ⟨g, cap, cur, hv, r⟩
    · exact absurd hz hl0
    · exact ⟨g, cap, cur, hv, r⟩
  have c1 : w.drew.cell? ⟨b, 1, none⟩ = some (.slice (some ⟨g, 0, none⟩) s.length cap) := hb.drew.cell 1 rfl
  have hSD : (Builtin.unsafeSliceData_ #[77] 141 #[.slice (some ⟨g, 0, none⟩) s.length cap]).run Tryz.prog w.drew = .ok (.pointer (some ⟨g, 0, none⟩)) w.drew :=
    Lib.run_unsafeSliceData_row _ _ _ _ _ _ (by omega)
  have hUS : (Builtin.unsafeString_ #[141, 3] 9 #[.pointer (some ⟨g, 0, none⟩), .int .i64 s.length]).run Tryz.prog w.drew = .ok (.string ⟨s.toArray⟩) (w.drew.freeze ⟨g, 0, none⟩ s.length) := by
    refine Lib.run_unsafeString_row w.drew 141 3 9 5 Tryz.underlying141 (by kernel_rfl) g cur.size (by have hg' : w.drew.heap[g]? = some (.cells cur 5 (0, 0)) := hg; simp [World.shape?, hg']) s h0 (by omega) (by omega) ?_
    intro j x hx
    have := hown.cells (g := g) rfl j (.int .u8 x.toNat) (by simp [u8s, hx])
    exact this
  have hF : Frm (fun k => Value.ownBlock (.slice (some ⟨g, 0, none⟩) s.length cap) = some k) w (w.drew.freeze ⟨g, 0, none⟩ s.length) := Frm.freeze (p := ⟨g, 0, none⟩) (Frm.refl (fun k => Value.ownBlock (.slice (some ⟨g, 0, none⟩) s.length cap) = some k) w).drew rfl s.length
  clear h hb hown hg htake hcs hcm hnc h0 hl0
  have mixed : Tryz.prog.follows Departure.mixedOrders = true := by kernel_rfl
  go_enter Tryz.func62, Tryz.ntmps62
  go_wp2
  go_region_o
  all_goals (go_wp2; go_ret; exact ⟨rfl, hF⟩)
set_option maxRecDepth 100000 in
set_option maxHeartbeats 2000000 in
theorem bstring_none (b : Nat) (v : Value) (w : World) (h : Bd w b v []) :
    Calls Tryz.prog 62 #[.pointer (some ⟨b, 0, none⟩)] w fun e w' => e = .returned (.string (bs [])) ∧ Frm (fun k => v.ownBlock = some k) w w' := by
  obtain ⟨p, hb, _⟩ := h.blk
  have hUS : ∀ (W : World) (q : Option Addr), (Builtin.unsafeString_ #[141, 3] 9 #[.pointer q, .int .i64 0]).run Tryz.prog W = .ok (.string .empty) W := fun W q => Lib.run_unsafeString_none (w := W) _ _ _ q
  have hlt := h.lt
  rcases h.own.2 with ⟨rfl, _⟩ | ⟨g, cap, cur, rfl, _, hg, _, _, _, _⟩
  · have c1 : w.drew.cell? ⟨b, 1, none⟩ = some (.slice none 0 0) := hb.drew.cell 1 rfl
    have hSD : (Builtin.unsafeSliceData_ #[77] 141 #[.slice none 0 0]).run Tryz.prog w.drew = .ok (.pointer none) w.drew := rfl
    clear h hb
    have mixed : Tryz.prog.follows Departure.mixedOrders = true := by kernel_rfl
    go_enter Tryz.func62, Tryz.ntmps62
    go_wp2
    go_region_o
    all_goals (go_wp2; go_ret; exact ⟨rfl, (Frm.refl _ w).drew⟩)
  · by_cases hc0 : cap = 0
    · subst hc0
      have c1 : w.drew.cell? ⟨b, 1, none⟩ = some (.slice (some ⟨g, 0, none⟩) 0 0) := hb.drew.cell 1 rfl
      have hSD : (Builtin.unsafeSliceData_ #[77] 141 #[.slice (some ⟨g, 0, none⟩) 0 0]).run Tryz.prog w.drew = .ok (.pointer (some ⟨w.drew.heap.size, 0, none⟩)) (w.drew.alloc (.view ⟨g, 0, none⟩ 5)) :=
        Lib.run_unsafeSliceData_zero (w := w.drew) _ _ 5 Tryz.underlying141 ⟨g, 0, none⟩ 0 (5, cur.size) (by have hg' : w.drew.heap[g]? = some (.cells cur 5 (0, 0)) := hg; simp [World.shape?, hg'])
      have c2 : (w.drew.alloc (.view ⟨g, 0, none⟩ 5)).cell? ⟨b, 1, none⟩ = some (.slice (some ⟨g, 0, none⟩) 0 0) := (hb.drew.old _).cell 1 rfl
      have c3 : (w.alloc (.view ⟨g, 0, none⟩ 5)).drew.cell? ⟨b, 1, none⟩ = some (.slice (some ⟨g, 0, none⟩) 0 0) := c2
      have c0 : w.cell? ⟨b, 1, none⟩ = some (.slice (some ⟨g, 0, none⟩) 0 0) := c1
      clear h hb hg
      have mixed : Tryz.prog.follows Departure.mixedOrders = true := by kernel_rfl
      go_enter Tryz.func62, Tryz.ntmps62
      go_wp2
      go_region_o
      all_goals (go_wp2; go_ret; exact ⟨rfl, (Frm.refl _ w).drew.alloc _⟩)
    · have c1 : w.drew.cell? ⟨b, 1, none⟩ = some (.slice (some ⟨g, 0, none⟩) 0 cap) := hb.drew.cell 1 rfl
      have hSD : (Builtin.unsafeSliceData_ #[77] 141 #[.slice (some ⟨g, 0, none⟩) 0 cap]).run Tryz.prog w.drew = .ok (.pointer (some ⟨g, 0, none⟩)) w.drew :=
        Lib.run_unsafeSliceData_row _ _ _ _ _ _ hc0
      clear h hb hg hc0
      have mixed : Tryz.prog.follows Departure.mixedOrders = true := by kernel_rfl
      go_enter Tryz.func62, Tryz.ntmps62
      go_wp2
      go_region_o
      all_goals (go_wp2; go_ret; exact ⟨rfl, (Frm.refl _ w).drew⟩)
theorem bstring_any (b : Nat) (v : Value) (s : List UInt8) (w : World) (h : Bd w b v s) (hl : s.length ≤ 100000000) :
    Calls Tryz.prog 62 #[.pointer (some ⟨b, 0, none⟩)] w fun e w' => e = .returned (.string (bs s)) ∧ Frm (fun k => v.ownBlock = some k) w w' := by
  cases s with
  | nil => exact bstring_none b v w h
  | cons x r => exact bstring_full b v (x :: r) w h (by simp) hl
set_option maxRecDepth 100000 in
set_option maxHeartbeats 2000000 in
theorem breset_any (b : Nat) (v p : Value) (w : World) (hb : Blk w b 99 #[p, v]) :
    Calls Tryz.prog 110 #[.pointer (some ⟨b, 0, none⟩)] w fun e w' => e = .returned (.tuple #[]) ∧ Bd w' b (.slice none 0 0) [] ∧ Frm (· = b) w w' := by
  have c0 := hb.cell 0 rfl
  have c1 := hb.cell 1 rfl
  have f0 := hb.free 0
  have f1 := hb.free 1
  have hb2 := (hb.set 0 (.pointer none)).set 1 (.slice none 0 0)
  have g2 : Frm (· = b) w ((w.setCell ⟨b, 0, none⟩ (.pointer none)).setCell ⟨b, 1, none⟩ (.slice none 0 0)) := ((Frm.refl (· = b) w).setCell (fun _ => rfl) _).setCell (fun _ => rfl) _
  have HB := Lib.hid (And.intro (Bd.zero hb2) g2)
  clear hb hb2 g2
  go_enter Tryz.func110, Tryz.ntmps110
  go_wp2_with fail
  go_end0
  exact ⟨rfl, HB.out⟩
end Go.Proofs.YtdhnidmeeocajaaGreat
end
section
namespace Go.Proofs.YtdhnidmeeocajaaGreat
open Go.RowKit Go.Shelf

theorem Tryz.info9r : (Tryz.prog.info? 9).map (fun i => (i.zero, i.size, i.bytes)) = some (some (.string ⟨#[]⟩), 1, 16) := by kernel_rfl
theorem rappend_strs (w : World) (v x : Value) (l m : List (List UInt8)) (h : OwnS w v l) (hs : Strs w x m) (hb : l.length + m.length ≤ 1000000) :
    ∃ v' w', (Builtin.append_ #[60, 60] 60 #[v, x]).run Tryz.prog w = .ok v' w' ∧ OwnS w' v' (l ++ m) ∧ w.grownBy w' v.ownBlock ∧ (∀ g, v'.ownBlock = some g → v.ownBlock = some g ∨ w.heap.size ≤ g) := by
  obtain ⟨i0, hi, hz0, hz1, hz2⟩ := info_parts Tryz.info9r
  obtain ⟨v', w', h1, h2, h3, h4⟩ := run_append_row w 60 60 60 9 i0 (.string ⟨#[]⟩) 1 16 Tryz.underlying60 hi hz0 hz1 hz2 rfl h x m.length (strs m)
    (Sl.src hs Tryz.underlying60 (strs_one m)) (by unfold maxLen; omega) (by omega)
  exact ⟨v', w', h1, by unfold OwnS; rw [List.length_append, strs_append]; exact h2, h3, h4⟩
theorem rstrs_one (w : World) (s : List UInt8) : Strs (w.alloc (.cells #[.string (bs s)] 9)) (.slice (some ⟨w.heap.size, 0, none⟩) 1 1) [s] := by
  refine ⟨rfl, _, 1, rfl, Nat.le_refl _, by decide, .inr ⟨_, 0, rfl, by simp, fun j hj => ?_⟩⟩
  obtain rfl : j = 0 := by simp at hj; omega
  exact (Blk.alloc w 9 #[.string (bs s)]).cell 0 rfl
/-- Texts in new memory. -/
structure NewL (w w' : World) (v : Value) (l : List (List UInt8)) : Prop where
  own : OwnS w' v l
  new : ∀ g, v.ownBlock = some g → w.heap.size ≤ g
  frm : Frm (fun _ => False) w w'
/-- How far whole is: the groups so far, what is held of the next one. -/
structure WhS (w0 wr : World) (b : Nat) (gv bv : Value) (gs : List (List UInt8)) (cur : List UInt8) : Prop where
  own : OwnS wr gv gs
  bd : Bd wr b bv cur
  gnew : ∀ g, gv.ownBlock = some g → w0.heap.size ≤ g
  bnew : ∀ k, BdX b bv k → w0.heap.size ≤ k
  apart : ∀ g, gv.ownBlock = some g → ¬ BdX b bv g
  frm : Frm (fun _ => False) w0 wr
section
variable {w0 w w' w'' : World} {b : Nat} {gv bv bv' gv' : Value} {gs gs' : List (List UInt8)} {cur cur' : List UInt8}
theorem WhS.keepF (h : WhS w0 w b gv bv gs cur) (g : Frm (fun _ => False) w w') : WhS w0 w' b gv bv gs cur :=
  ⟨h.own.keep g (fun _ _ h => h), h.bd.keep g (fun _ _ h => h), h.gnew, h.bnew, h.apart, h.frm.trans g⟩
/-- The builder wrote. -/
theorem WhS.wrote (h : WhS w0 w b gv bv gs cur) (hb : Bd w' b bv' cur') (g : Frm (BdX b bv) w w') (hn : ∀ k, bv'.ownBlock = some k → bv.ownBlock = some k ∨ w.heap.size ≤ k) : WhS w0 w' b gv bv' gs cur' := by
  have hs := h.frm.size
  have hx : ∀ k, BdX b bv' k → BdX b bv k ∨ w.heap.size ≤ k := fun k hk => by
    rcases hk with e | e
    · exact .inl (.inl e)
    · exact (hn k e).imp (fun e => .inr e) id
  refine ⟨h.own.keep g (fun k hk e => h.apart k hk e), hb, h.gnew, fun k hk => ?_, fun k hk e => ?_, h.frm.next g fun k hk e => by have := h.bnew k e; omega⟩
  · rcases hx k hk with e | e
    · exact h.bnew k e
    · omega
  · rcases hx k e with e | e
    · exact h.apart k hk e
    · have := Row.blk h.own k hk; omega
/-- The groups grew. -/
theorem WhS.grew (h : WhS w0 w b gv bv gs cur) (ho : OwnS w' gv' gs') (hg : w.grownBy w' gv.ownBlock) (hn : ∀ k, gv'.ownBlock = some k → gv.ownBlock = some k ∨ w.heap.size ≤ k) : WhS w0 w' b gv' bv gs' cur := by
  have hs := h.frm.size
  have g : Frm (fun k => gv.ownBlock = some k) w w' := (Frm.refl _ w).grown hg (fun _ _ e => e)
  refine ⟨ho, h.bd.keep g (fun k hk e => h.apart k e hk), fun k hk => ?_, h.bnew, fun k hk e => ?_, h.frm.next g fun k hk e => by have := h.gnew k e; omega⟩
  · rcases hn k hk with e | e
    · exact h.gnew k e
    · omega
  · rcases hn k hk with e' | e'
    · exact h.apart k e' e
    · have := h.bd.lt2 k e; omega
/-- The builder is let go, and another one stands in its place. -/
theorem WhS.reset (h : WhS w0 w b gv bv gs cur) (g1 : Frm (fun k => bv.ownBlock = some k) w w') : (∃ p, Blk w' b 99 #[p, bv]) ∧ OwnS w' gv gs ∧ Frm (fun _ => False) w0 w' := by
  obtain ⟨p, hb, _⟩ := h.bd.blk
  exact ⟨⟨p, hb.keep g1 h.bd.ne⟩, h.own.keep g1 (fun k hk e => h.apart k hk (.inr e)), h.frm.next g1 fun k hk e => by have := h.bnew k (.inr e); omega⟩
theorem WhS.ended {w0 w6 w7 w8 w9 w10 : World} {b : Nat} {gv bv gv' : Value} {gs gs' : List (List UInt8)} {cur : List UInt8} (h : WhS w0 w6 b gv bv gs cur) (g7 : Frm (fun k => bv.ownBlock = some k) w6 w7) (g8 : Frm (fun _ => False) w7 w8)
    (ho : OwnS w9 gv' gs') (hg : w8.grownBy w9 gv.ownBlock) (hn : ∀ k, gv'.ownBlock = some k → gv.ownBlock = some k ∨ w8.heap.size ≤ k) :
    (∃ p, Blk w9 b 99 #[p, bv]) ∧ (Bd w10 b (.slice none 0 0) [] → Frm (· = b) w9 w10 → WhS w0 w10 b gv' (.slice none 0 0) gs' []) := by
  obtain ⟨⟨p, hb7⟩, ho7, f7⟩ := h.reset g7
  have hgb : gv.ownBlock ≠ some b := fun e => h.apart b e (.inl rfl)
  have hb8 := hb7.keep g8 (fun h => h)
  have hs7 := f7.size
  have hs8 := g8.size
  have hblt := hb8.lt
  have f9 : Frm (fun _ => False) w0 w9 := (f7.trans g8).grown hg (fun k hk e => by have := h.gnew k e; omega)
  refine ⟨⟨p, hb8.beside hg hgb⟩, fun hb g => ?_⟩
  have hvb : ∀ k, gv'.ownBlock = some k → k ≠ b := fun k hk e => by
    subst e
    rcases hn k hk with e | e
    · exact hgb e
    · omega
  refine ⟨ho.keep g (fun k hk e => hvb k hk e), hb, fun k hk => ?_, fun k hk => ?_, fun k hk e => ?_, f9.next g fun k hk e => by subst e; have := h.bnew k (.inl rfl); omega⟩
  · rcases hn k hk with e | e
    · exact h.gnew k e
    · omega
  · rcases hk with rfl | e
    · exact h.bnew k (.inl rfl)
    · cases e
  · rcases e with e | e
    · exact hvb k hk e
    · cases e
end
end Go.Proofs.YtdhnidmeeocajaaGreat
end
