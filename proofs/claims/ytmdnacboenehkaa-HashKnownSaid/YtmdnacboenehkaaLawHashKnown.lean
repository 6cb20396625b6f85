/- HashKnown: what the law's call answers. No condition. -/
import Derived.Test.YtmdnacboenehkaaHashW
namespace Go.Proofs.Ytmdnacboenehkaa
open Go.RowKit Go.Shelf
attribute [local go_sem] Oper.semAt_some

/-- An index that New did not return, as its zero value lies. -/
def zeroIx : Array Value := #[.pointer none, .slice none 0 0, .slice none 0 0, .slice none 0 0, .slice none 0 0, .slice none 0 0, .slice none 0 0, .slice none 0 0, .slice none 0 0, .slice none 0 0, .slice none 0 0, .slice none 0 0, .slice none 0 0, .slice none 0 0, .slice none 0 0, .slice none 0 0, .slice none 0 0]
/-- Between two rounds: there are none. -/
structure KnI (w : World) (z : Nat) (W : World) : Prop where
  res : Blk W w.heap.size 4 #[.bool false]
  zero : Blk W z 50 zeroIx
  frm : Frm (fun _ => False) w W
theorem KnI.own {α : Type} (w : World) (z : Nat) (B : Nat) (hB : w.heap.size ≤ B) : OwnFrom (β := α) B (fun _ => KnI w z) := fun _ _ _ _ h hg hr =>
  have hr2 := fun r e => (hr r e).2
  ⟨h.res.turned hg hr2, h.zero.turned hg hr2, h.frm.turned hB hg hr⟩
theorem Ids.none_ (w : World) : Ids w (.slice none 0 0) [] := Sl.nil_ w 1 none 0 (by decide)

set_option maxRecDepth 100000 in
set_option maxHeartbeats 4000000 in
theorem known_in (w : World) : CallsIn Fence.wide 9 Try.prog 5 #[] w fun e w' => e = .returned (.bool true) ∧ Frm (fun _ => False) w w' := by
  have hres := Blk.alloc w 4 #[.bool false]
  have f0 := (Frm.refl (fun _ => False) w).alloc (.cells #[.bool false] 4)
  have a1 := fun w0 w1 b => add_own w0 w1 b [97] 5 []
  have a2 := fun w0 w1 b => add_own w0 w1 b [97] 5 [(2, 5)]
  have a3 := fun w0 w1 b => add_own w0 w1 b [113] 6 [(2, 5)]
  have b1 := fun w0 w1 b L => bucket_own w0 w1 b L []
  have b2 := fun w0 w1 b L => bucket_own w0 w1 b L [98]
  have b3 := fun w0 w1 b L => bucket_own w0 w1 b L [98, 97]
  have f1 := fun w0 w1 b vw => finds_own w0 w1 b [97] [(2, 5), (2, 6)] vw
  have f2 := fun w0 w1 b vw => finds_own w0 w1 b [98] [(2, 5), (2, 6)] vw
  have f3 := fun w0 w1 b vw => finds_own w0 w1 b [113] [(2, 6)] vw
  have d1 := fun w0 w1 b => drop_own w0 w1 b [97] 5 [(2, 5), (2, 6)]
  have d2 := fun w0 w1 b => drop_own w0 w1 b [97] 5 [(2, 6)]
  have d3 := fun w0 w1 b => drop_own w0 w1 b [98] 6 [(2, 6)]
  have l1 := fun w0 w1 b => len_own w0 w1 b [(2, 6)]
  rw [bk_a] at a1 a2 f1 d1 d2
  rw [bk_q] at a3 f3
  rw [bk_b] at b2 f2 d3
  rw [bk_0] at b1
  rw [bk_ba] at b3
  have A1 := Lib.hid a1
  have A2 := Lib.hid a2
  have A3 := Lib.hid a3
  have B1 := Lib.hid b1
  have B2 := Lib.hid b2
  have B3 := Lib.hid b3
  have F1 := Lib.hid f1
  have F2 := Lib.hid f2
  have F3 := Lib.hid f3
  have D1 := Lib.hid d1
  have D2 := Lib.hid d2
  have D3 := Lib.hid d3
  have L1 := Lib.hid l1
  clear a1 a2 a3 b1 b2 b3 f1 f2 f3 d1 d2 d3 l1
  refine callsIn_of_wp_marks Try.func5 rfl trivial ?_ rfl
  simp only [Try.ntmps5, List.size_toArray, List.length_nil, Nat.reduceSub, Array.replicate_succ, Array.replicate_zero, List.push_toArray, List.append_toArray, List.nil_append, List.cons_append]
  gi_wp2_with fail
  generalize w.alloc (.cells #[.bool false] 4) = w0 at *
  refine ⟨trivial, (callsIn_wide.2 (new_own w0 w0 (Frm.refl _ _))).mono ?_⟩
  rintro e w1 ⟨b, rfl, h1⟩
  gi_wp2_with fail
  refine ⟨trivial, (callsIn_wide.2 (B1.out _ _ _ _ h1 (by simp))).mono ?_⟩
  rintro e w2 ⟨rfl, h2⟩
  clear h1
  gi_wp2_with fail
  refine ⟨trivial, (callsIn_wide.2 (B2.out _ _ _ _ h2 (by simp))).mono ?_⟩
  rintro e w3 ⟨rfl, h3⟩
  clear h2
  gi_wp2_with fail
  refine ⟨trivial, (callsIn_wide.2 (B3.out _ _ _ _ h3 (by simp))).mono ?_⟩
  rintro e w4 ⟨rfl, h4⟩
  clear h3
  gi_wp2_with fail
  refine ⟨trivial, (callsIn_wide.2 (A1.out _ _ _ h4 (by simp) (by simp))).mono ?_⟩
  rintro e w5 ⟨rfl, h5⟩
  clear h4
  gi_wp2_with fail
  refine ⟨trivial, (callsIn_wide.2 (A2.out _ _ _ h5 (by simp) (by simp))).mono ?_⟩
  rintro e w6 ⟨rfl, h6⟩
  clear h5
  gi_wp2_with fail
  refine ⟨trivial, (callsIn_wide.2 (A3.out _ _ _ h6 (by simp) (by simp))).mono ?_⟩
  rintro e w7 ⟨rfl, h7⟩
  clear h6
  gi_wp2_with fail
  refine ⟨trivial, (callsIn_wide.2 (F1.out _ _ _ _ (h7.keep ((Frm.refl _ w7).alloc _)) (by simp) (by simp) (Ids.two w7 5 6))).mono ?_⟩
  rintro e w8 ⟨rfl, h8⟩
  clear h7
  gi_wp2_with fail
  refine ⟨trivial, (callsIn_wide.2 (F2.out _ _ _ _ h8 (by simp) (by simp) (Ids.none_ _))).mono ?_⟩
  rintro e w9 ⟨rfl, h9⟩
  clear h8
  gi_wp2_with fail
  refine ⟨trivial, (callsIn_wide.2 (D1.out _ _ _ h9 (by simp) (by simp))).mono ?_⟩
  rintro e w10 ⟨rfl, h10⟩
  clear h9
  gi_wp2_with fail
  refine ⟨trivial, (callsIn_wide.2 (D2.out _ _ _ h10 (by simp) (by simp))).mono ?_⟩
  rintro e w11 ⟨rfl, h11⟩
  clear h10
  gi_wp2_with fail
  refine ⟨trivial, (callsIn_wide.2 (F3.out _ _ _ _ (h11.keep ((Frm.refl _ w11).alloc _)) (by simp) (by simp) (Ids.one w11 6))).mono ?_⟩
  rintro e w12 ⟨rfl, h12⟩
  clear h11
  gi_wp2_with fail
  refine ⟨trivial, (callsIn_wide.2 (L1.out _ _ _ h12 (by simp) (by simp))).mono ?_⟩
  rintro e w13 ⟨rfl, h13⟩
  clear h12
  gi_wp2_with fail
  refine ⟨trivial, (callsIn_wide.2 (D3.out _ _ _ h13 (by simp) (by simp))).mono ?_⟩
  rintro e w14 ⟨rfl, h14⟩
  clear h13
  have fw := f0.trans h14.frm
  have hr14 := hres.keep h14.frm (fun h => h)
  clear h14 hres f0 A1 A2 A3 B1 B2 B3 F1 F2 F3 D1 D2 D3 L1
  have hz : Blk (w14.alloc (.cells zeroIx 50)) w14.heap.size 50 zeroIx := Blk.alloc w14 _ _
  have fz := fw.alloc (.cells zeroIx 50)
  have hrz := hr14.old (.cells zeroIx 50)
  clear fw hr14
  have hsn := seq_neq
  gi_wp2_with fail
  change _ ∧ CallsIn _ _ _ _ _ (w14.alloc (.cells zeroIx 50)) _
  generalize w14.alloc (.cells zeroIx 50) = wz at *
  generalize w14.heap.size = z at *
  refine ⟨trivial, (callsIn_wide.2 (all_any none _)).mono ?_⟩
  rintro e w15 ⟨rfl, rfl⟩
  have hI0 : KnI w z (wz.alloc (.cells #[.pointer none] 28)) := ⟨hrz.old _, hz.old _, fz.alloc _⟩
  have hBn := Blk.alloc wz 28 #[.pointer none]
  have hzlt := fz.size
  have hwlt := hrz.lt
  generalize wz.alloc (.cells #[.pointer none] 28) = wy at *
  generalize wz.heap.size = Bn at *
  clear hrz hz fz
  gi_wp2_with fail
  have hwy := hI0.frm.size
  refine wpIn_rangeFunc_ownF rfl (by omega) (gf := 26) (lb := #[.pointer (some ⟨Bn, 0, none⟩)]) rfl trivial (enters_of Try.func26 (by kernel_rfl) rfl)
    (none_stops (α := Fin 0) (fun x => x.elim0) none Bn 0 wy hBn (fun W _ => made_nil W)) kept.trans (kept.put (Nat.zero_le _)) (Below.refl _ _) (fun x => x.elim0)
    (fun _ => KnI w z) (fun _ _ _ => False) (KnI.own w z _ hwy) (fun _ _ _ _ _ h _ _ => h) hI0 (fun x => x.elim0) ?assign ?body ?done ?stop
  case assign => exact fun l0 x => x.elim0
  case body => exact fun l0 pre x => x.elim0
  case stop =>
    rintro D c pre W _ _ h _
    exact h.elim
  case done =>
    rintro D xs W hD _ hv hK
    have hDlt := (Array.getElem?_eq_some_iff.1 hK).1
    have hD2 : w.heap.size ≤ D := by omega
    have c0 : W.cell? ⟨z, 0, none⟩ = some (.pointer none) := hv.zero.cell 0 rfl
    clear hI0 hBn hsn
    gi_wp2_with fail
    refine ⟨trivial, (callsIn_wide.2 (add_none none _ 1 _ (made_nil _))).mono ?_⟩
    rintro e w1 ⟨rfl, rfl⟩
    gi_wp2_with fail
    refine ⟨trivial, (callsIn_wide.2 (add_none (some ⟨z, 0, none⟩) _ 1 _ (made_zero z _ c0))).mono ?_⟩
    rintro e w1 ⟨rfl, rfl⟩
    gi_wp2_with fail
    refine ⟨trivial, (callsIn_wide.2 (drop_none none _ 1 _ (made_nil _))).mono ?_⟩
    rintro e w1 ⟨rfl, rfl⟩
    gi_wp2_with fail
    refine ⟨trivial, (callsIn_wide.2 (finds_yes (.pointer (some ⟨z, 0, none⟩)) _ (.slice none 0 0) [] _ (find_none _ _ _ (made_zero z _ c0)) (Ids.none_ _))).mono ?_⟩
    rintro e w1 ⟨rfl, g1⟩
    gi_wp2_with fail
    refine ⟨trivial, (callsIn_wide.2 (len_none none _ (fun W' _ => made_nil W'))).mono ?_⟩
    rintro e w2 ⟨rfl, g2⟩
    gi_wp2_with fail
    refine ⟨trivial, (callsIn_wide.2 (len_none (some ⟨z, 0, none⟩) _ (fun W' hf => made_zero z W' ((hv.zero.keep ((g1.trans g2).trans hf) (fun h => h)).cell 0 rfl)))).mono ?_⟩
    rintro e w3 ⟨rfl, g3⟩
    gi_wp2_with fail
    refine ⟨trivial, (callsIn_wide.2 (awake_any _)).mono ?_⟩
    rintro e w4 ⟨rfl, g4⟩
    have g := ((g1.trans g2).trans g3).trans g4
    have hb4 := hv.res.keep g (fun h => h)
    have c4 := hb4.cell 0 rfl
    have r4 := hb4.free 0
    have hK4 := (g.block D hDlt (fun h => h)).trans hK
    have hf4 := hv.frm.trans g
    clear g1 g2 g3 g4 g c0
    gi_wp2_with fail
    have hK' := (KeepsOthers.setCell w4 ⟨w.heap.size, 0, none⟩ (.bool true)).same D _ hK4 rfl
    refine ⟨by simp, .inl ⟨_, _, rfl, run_takeDeferred hK', ?_⟩⟩
    have hrow : ∀ r, some D = some r → ∃ o : Obj, (w4.setCell ⟨w.heap.size, 0, none⟩ (.bool true)).heap[r]? = some o ∧ o.isCells = false := fun r e => by cases e; exact ⟨_, hK', rfl⟩
    have hg := grownBy_putObj' (w4.setCell ⟨w.heap.size, 0, none⟩ (.bool true)) D (.deferred none)
    have hb5 := (hb4.set 0 (.bool true)).turned hg hrow
    have hc5 := hb5.cell 0 rfl
    refine ⟨.bool true, ?_, rfl, (hf4.setCell (p := ⟨w.heap.size, 0, none⟩) (fun h => absurd h (by simp)) _).grown hg (fun k hk e => by cases e; omega)⟩
    simp [results, Try.f5, go_sem, hc5]

theorem hashKnown_any (w : World) : Calls Try.prog 5 #[] w fun e w' => e = .returned (.bool true) ∧ Frm (fun _ => False) w w' := callsIn_wide.1 (known_in w)
end Go.Proofs.Ytmdnacboenehkaa
