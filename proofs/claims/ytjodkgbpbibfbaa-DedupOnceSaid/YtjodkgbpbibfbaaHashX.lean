/- An index in memory: itself, and sixteen lists; what New, Add, Find, Drop do. No condition. -/
import Derived.Test.YtjodkgbpbibfbaaHashL
import Derived.Deep.RegionHeld3
import Derived.Deep.DeepCutAuto
import Derived.LaidEqlPtr
namespace Go.Proofs.Ytjodkgbpbibfbaa
open Go.RowKit

def upd {α : Type} (f : Nat → α) (k : Nat) (x : α) (j : Nat) : α := if j = k then x else f j
theorem upd_same {α : Type} (f : Nat → α) (k : Nat) (x : α) : upd f k x k = x := if_pos rfl
theorem upd_other {α : Type} (f : Nat → α) (x : α) {j k : Nat} (h : j ≠ k) : upd f k x j = f j := if_neg h
/-- The cells of an index: itself, and its lists. -/
def hxCells (b : Nat) (v : Nat → Value) : Array Value := ((Value.pointer (some ⟨b, 0, none⟩)) :: (List.range 16).map v).toArray
theorem hxCells_at (b : Nat) (v : Nat → Value) (k : Nat) (hk : k < 16) : (hxCells b v)[1 + k]? = some (v k) := by
  unfold hxCells
  rw [Nat.add_comm]
  simp [hk]
theorem hxCells_set (b : Nat) (v : Nat → Value) (k : Nat) (u : Value) : (hxCells b v).setIfInBounds (1 + k) u = hxCells b (upd v k u) := by
  unfold hxCells
  rw [Nat.add_comm]
  simp only [List.setIfInBounds_toArray, List.set_cons_succ]
  congr 2
  apply List.ext_getElem
  · simp
  · intro i h1 h2
    rw [List.getElem_set]
    by_cases e : k = i
    · subst e; simp [upd]
    · rw [if_neg e]
      simp [upd, Ne.symm e]

/-- The lists of an index: each one lies apart. -/
structure Hv (w : World) (b : Nat) (L : Nat → List Nat) (v : Nat → Value) : Prop where
  blk : Blk w b 111 (hxCells b v)
  own : ∀ i, i < 16 → Own w (v i) (L i)
  apart : ∀ i j, i < 16 → j < 16 → i ≠ j → ∀ g, (v i).ownBlock = some g → (v j).ownBlock ≠ some g
  nb : ∀ i, i < 16 → (v i).ownBlock ≠ some b
/-- An index, and what its blocks are among. -/
def Hx (w : World) (b : Nat) (L : Nat → List Nat) (fp : Nat → Prop) : Prop := (∀ k, fp k → k < w.heap.size) ∧ fp b ∧ ∃ v, Hv w b L v ∧ ∀ i, i < 16 → ∀ g, (v i).ownBlock = some g → fp g

section
variable {w w' : World} {b : Nat} {L : Nat → List Nat} {v : Nat → Value} {fp : Nat → Prop}
theorem Hv.self (h : Hv w b L v) : w.cell? ⟨b, 0, none⟩ = some (.pointer (some ⟨b, 0, none⟩)) := h.blk.cell 0 rfl
theorem Hv.at (h : Hv w b L v) (k : Nat) (hk : k < 16) : w.cell? ⟨b, 1 + k, none⟩ = some (v k) := h.blk.cell (1 + k) (hxCells_at b v k hk)
theorem Hv.keep {X : Nat → Prop} (h : Hv w b L v) (hf : Frm X w w') (hb : ¬ X b) (hn : ∀ i, i < 16 → ∀ g, (v i).ownBlock = some g → ¬ X g) : Hv w' b L v :=
  ⟨h.blk.keep hf hb, fun i hi => (h.own i hi).keep hf (hn i hi), h.apart, h.nb⟩
theorem Hv.keepF (h : Hv w b L v) (hf : Frm (fun _ => False) w w') : Hv w' b L v := h.keep hf (fun h => h) (fun _ _ _ _ h => h)
theorem Hx.keep {X : Nat → Prop} (h : Hx w b L fp) (hf : Frm X w w') (hn : ∀ k, fp k → ¬ X k) : Hx w' b L fp := by
  obtain ⟨h1, h2, v, h3, h4⟩ := h
  exact ⟨fun k hk => Nat.lt_of_lt_of_le (h1 k hk) hf.size, h2, v, h3.keep hf (hn b h2) (fun i hi g hg => hn g (h4 i hi g hg)), h4⟩
theorem Hx.keepF (h : Hx w b L fp) (hf : Frm (fun _ => False) w w') : Hx w' b L fp := h.keep hf fun _ _ h => h
theorem Hx.lt (h : Hx w b L fp) : b < w.heap.size := h.1 b h.2.1
/-- A list is another one now. -/
theorem Hv.put (h : Hv w b L v) {k : Nat} (hk : k < 16) (hf : Frm (fun j => (v k).ownBlock = some j) w w') {v' : Value} {l' : List Nat} (ho : Own w' v' l') (hb : ∀ g, v'.ownBlock = some g → (v k).ownBlock = some g ∨ w.heap.size ≤ g) :
    Hv (w'.setCell ⟨b, 1 + k, none⟩ v') b (upd L k l') (upd v k v') := by
  have hlt := h.blk.lt
  have hvb : v'.ownBlock ≠ some b := fun e => (hb b e).elim (h.nb k hk) (fun e => by omega)
  have hbk : ∀ i, i < 16 → ∀ g, (v i).ownBlock = some g → g < w.heap.size := fun i hi g hg => Row.blk (h.own i hi) g hg
  refine ⟨?_, fun i hi => ?_, fun i j hi hj hij g hg => ?_, fun i hi => ?_⟩
  · rw [← hxCells_set b v k v']
    exact (h.blk.keep hf (h.nb k hk)).set (1 + k) v'
  · by_cases e : i = k
    · subst e
      rw [upd_same, upd_same]
      exact Row.setOther (p := ⟨b, 1 + i, none⟩) ho hvb _
    · rw [upd_other _ _ e, upd_other _ _ e]
      exact Row.setOther (p := ⟨b, 1 + k, none⟩) ((h.own i hi).keep hf (fun g hg => h.apart i k hi hk e g hg)) (h.nb i hi) _
  · by_cases e : i = k
    · subst e
      rw [upd_same] at hg
      rw [upd_other _ _ (Ne.symm hij)]
      intro hgj
      rcases hb g hg with e | e
      · exact h.apart i j hi hj hij g e hgj
      · have := hbk j hj g hgj; omega
    · rw [upd_other _ _ e] at hg
      by_cases e2 : j = k
      · subst e2
        rw [upd_same]
        intro hgj
        rcases hb g hgj with e3 | e3
        · exact h.apart i j hi hj hij g hg e3
        · have := hbk i hi g hg; omega
      · rw [upd_other _ _ e2]
        exact h.apart i j hi hj hij g hg
  · by_cases e : i = k
    · subst e; rw [upd_same]; exact hvb
    · rw [upd_other _ _ e]; exact h.nb i hi
end
/-- A call on an index: its answer, and what the lists are then. -/
def HxTo (b : Nat) (L' : Nat → List Nat) (fp : Nat → Prop) (r : Nat) (w : World) (e : Ending) (w' : World) : Prop :=
  e = .returned (.int .i64 r) ∧ ∃ fp', Hx w' b L' fp' ∧ Frm fp w w' ∧ ∀ k, fp' k → fp k ∨ w.heap.size ≤ k

theorem Frm.ofDrew {X : Nat → Prop} {w w' : World} (h : ∃ n, w' = w.drewN n) : Frm X w w' := by
  obtain ⟨n, rfl⟩ := h
  exact (Frm.refl X w).drewN n

set_option maxRecDepth 100000 in
set_option maxHeartbeats 400000 in
theorem new_any (w : World) :
    Calls Try.prog 34 #[] w fun e w' => e = .returned (.pointer (some ⟨w.heap.size, 0, none⟩)) ∧ Hx w' w.heap.size (fun _ => []) (· = w.heap.size) ∧ Frm (fun _ => False) w w' ∧ w'.heap.size = w.heap.size + 1 := by
  go_enter Try.func34, Try.ntmps34
  go_wp2
  go_ret
  refine ⟨rfl, ⟨fun k hk => by rw [hk]; simp, rfl, fun _ => .slice none 0 0, ⟨Blk.alloc w 111 _, fun i _ => Own.nil_ _, fun i j _ _ _ g hg => (by cases hg), fun i _ hg => (by cases hg)⟩, fun i _ g hg => (by cases hg)⟩, (Frm.refl _ w).alloc _, by simp⟩

theorem same_ptr (w : World) (a : Addr) : (binOp .eql 62 (.pointer (some a)) (.pointer (some a))).run Try.prog w = .ok (.bool true) w := by
  obtain ⟨j, hj⟩ := Option.isSome_iff_exists.1 (show (Try.prog.info? 111).isSome = true by kernel_rfl)
  exact run_eql_ptr_same w a Try.underlying62 hj
theorem nil_ptr (w : World) (a : Addr) : (binOp .eql 62 (.pointer none) (.pointer (some a))).run Try.prog w = .ok (.bool false) w := by
  have h : ∀ d : Nat, (Op.equalIn (d + 1) 62 (.pointer none) (.pointer (some a))).run Try.prog w = .ok false w := fun d => by
    simp [Op.equalIn, run_underlying Try.underlying62]
  simp only [binOp]
  simp [Op.equal, Op.maxDepth, h 9999]

set_option maxHeartbeats 400000 in
theorem made_any (b : Nat) (L : Nat → List Nat) (v : Nat → Value) (w : World) (h : Hv w b L v) :
    Calls Try.prog 60 #[.pointer (some ⟨b, 0, none⟩)] w fun e w' => e = .returned (.bool true) ∧ w = w' := by
  have c0 := h.self
  have hq := same_ptr
  go_enter Try.func60, Try.ntmps60
  go_wp2
  go_ret
  exact ⟨rfl, rfl⟩
set_option maxHeartbeats 400000 in
theorem made_nil (w : World) :
    Calls Try.prog 60 #[.pointer none] w fun e w' => e = .returned (.bool false) ∧ w = w' := by
  go_enter Try.func60, Try.ntmps60
  go_wp2
  go_ret
  exact ⟨rfl, rfl⟩
set_option maxHeartbeats 400000 in
theorem made_zero (b : Nat) (w : World) (c0 : w.cell? ⟨b, 0, none⟩ = some (.pointer none)) :
    Calls Try.prog 60 #[.pointer (some ⟨b, 0, none⟩)] w fun e w' => e = .returned (.bool false) ∧ w = w' := by
  have hq := nil_ptr
  go_enter Try.func60, Try.ntmps60
  go_wp2
  go_ret
  exact ⟨rfl, rfl⟩

set_option maxRecDepth 100000 in
set_option maxHeartbeats 1000000 in
theorem add_in (b : Nat) (s : List UInt8) (id : Nat) (L : Nat → List Nat) (fp : Nat → Prop) (w : World) (h : Hx w b L fp) (hs : s.length ≤ 9223372036854775807) (hid : id ∈ L (bk s)) :
    Calls Try.prog 59 #[.pointer (some ⟨b, 0, none⟩), .string (bs s), .int .u32 id] w (HxTo b L fp 6 w) := by
  obtain ⟨k, hk⟩ : ∃ k, bk s = k := ⟨_, rfl⟩
  have hk16 : k < 16 := by rw [← hk]; exact bk_lt s
  have hB : ∀ W, Calls Try.prog 61 #[.string (bs s)] W fun e w' => e = .returned (.int .u8 (k : Nat)) ∧ ∃ n, w' = W.drewN n := fun W => by rw [← hk]; exact bucket_any s W hs
  have HB := Lib.hid hB
  rw [hk] at hid
  clear hB hk
  have hd : decide (id ∈ L k) = true := by simpa using hid
  have h0 := h
  obtain ⟨h1, h2, v, hv, h4⟩ := h
  have ka : (0 : Int) ≤ (k : Int) := by omega
  have kb : (k : Int) < 16 := by omega
  go_enter Try.func59, Try.ntmps59
  go_wp2_with fail
  refine (made_any b L v _ hv).mono ?_
  rintro e w1 ⟨rfl, rfl⟩
  go_wp2_with fail
  go_quiet ((go_at_call 61; exact Calls.quiet_of (HB.out _)))
  have f1 : Frm (fun _ => False) w (w.drewN nq) := (Frm.refl _ w).drewN _
  generalize w.drewN nq = w2 at *
  have hv2 := hv.keepF f1
  have c2 := hv2.at k hk16
  go_wp2_with fail
  refine (contains_any (v k) (L k) id _ (hv2.own k hk16).ids).mono ?_
  rintro e w3 ⟨rfl, hn⟩
  rw [hd]
  have f3 := f1.trans (Frm.ofDrew hn)
  clear hn
  go_wp2_with fail
  go_ret
  exact ⟨rfl, fp, h0.keepF f3, f3.mono (fun _ _ h => h.elim), fun k hk => .inl hk⟩
/-- A block that is beside a row that grew. -/
theorem Blk.beside {w w' : World} {b : Nat} {t : TypeId} {cs : Array Value} {row : Option Nat} (h : Blk w b t cs) (hg : w.grownBy w' row) (hn : row ≠ some b) : Blk w' b t cs := (hg.block b h.lt fun e => hn e.symm).trans h
theorem Hx.put {w w1 w2 : World} {b k : Nat} {L : Nat → List Nat} {v : Nat → Value} {fp : Nat → Prop} (h1 : ∀ k, fp k → k < w.heap.size) (h2 : fp b) (h4 : ∀ i, i < 16 → ∀ g, (v i).ownBlock = some g → fp g) (f : Frm (fun _ => False) w w1) (hv : Hv w1 b L v) (hk : k < 16)
    (hf : Frm (fun j => (v k).ownBlock = some j) w1 w2) {v' : Value} {l' : List Nat} (ho : Own w2 v' l') (hb : ∀ g, v'.ownBlock = some g → (v k).ownBlock = some g ∨ w1.heap.size ≤ g) :
    ∃ fp', Hx (w2.setCell ⟨b, 1 + k, none⟩ v') b (upd L k l') fp' ∧ Frm fp w (w2.setCell ⟨b, 1 + k, none⟩ v') ∧ ∀ j, fp' j → fp j ∨ w.heap.size ≤ j := by
  have hsz : (w2.setCell ⟨b, 1 + k, none⟩ v').heap.size = w2.heap.size := by simp [World.setCell]
  have hput := hv.put hk hf ho hb
  have hfw : Frm fp w w2 := (f.mono (Y := fp) (fun _ _ h => h.elim)).next hf (fun j hj e => h4 k hk j e)
  refine ⟨fun j => fp j ∨ (w.heap.size ≤ j ∧ j < w2.heap.size), ⟨fun j hj => ?_, .inl h2, upd v k v', hput, fun i hi g hg => ?_⟩, hfw.setCell (p := ⟨b, 1 + k, none⟩) (fun _ => h2) _, fun j hj => hj.imp id (·.1)⟩
  · rw [hsz]
    rcases hj with hj | hj
    · exact Nat.lt_of_lt_of_le (h1 j hj) hfw.size
    · exact hj.2
  · by_cases e : i = k
    · subst e
      rw [upd_same] at hg
      rcases hb g hg with e2 | e2
      · exact .inl (h4 i hi g e2)
      · exact .inr ⟨Nat.le_trans f.size e2, Row.blk ho g hg⟩
    · rw [upd_other _ _ e] at hg
      exact .inl (h4 i hi g hg)

set_option maxRecDepth 100000 in
set_option maxHeartbeats 1000000 in
theorem add_out (b : Nat) (s : List UInt8) (id : Nat) (L : Nat → List Nat) (fp : Nat → Prop) (w : World) (h : Hx w b L fp) (hs : s.length ≤ 9223372036854775807) (hid : id ∉ L (bk s)) (hl : (L (bk s)).length ≤ 900000) :
    Calls Try.prog 59 #[.pointer (some ⟨b, 0, none⟩), .string (bs s), .int .u32 id] w (HxTo b (upd L (bk s) (L (bk s) ++ [id])) fp 0 w) := by
  have hk16 := bk_lt s
  have hB : ∀ W, Calls Try.prog 61 #[.string (bs s)] W fun e w' => e = .returned (.int .u8 (bk s : Nat)) ∧ ∃ n, w' = W.drewN n := fun W => bucket_any s W hs
  generalize bk s = k at *
  have HB := Lib.hid hB
  clear hB
  have hd : decide (id ∈ L k) = false := by simpa using hid
  obtain ⟨h1, h2, v, hv, h4⟩ := h
  have ka : (0 : Int) ≤ (k : Int) := by omega
  have kb : (k : Int) < 16 := by omega
  go_enter Try.func59, Try.ntmps59
  go_wp2_with fail
  refine (made_any b L v _ hv).mono ?_
  rintro e w1 ⟨rfl, rfl⟩
  go_wp2_with fail
  go_quiet ((go_at_call 61; exact Calls.quiet_of (HB.out _)))
  have f1 : Frm (fun _ => False) w (w.drewN nq) := (Frm.refl _ w).drewN _
  generalize w.drewN nq = w2 at *
  have hv2 := hv.keepF f1
  have c2 := hv2.at k hk16
  go_wp2_with fail
  refine (contains_any (v k) (L k) id _ (hv2.own k hk16).ids).mono ?_
  rintro e w3 ⟨rfl, hn⟩
  rw [hd]
  have f3 := f1.trans (Frm.ofDrew hn)
  have hv3 := hv.keepF f3
  clear hn hv2 c2 f1
  have c3 := hv3.at k hk16
  obtain ⟨v', w4, hrun, hrow, hg, ho⟩ := append_ids _ (v k) _ (L k) [id] ((hv3.own k hk16).keep ((Frm.refl (fun _ => False) w3).alloc (.cells #[.int .u32 id] 29)) (fun _ _ h => h)) (Ids.one w3 id) (by simp; omega)
  obtain ⟨a', cap', rfl, hc1', hc2'⟩ := Row.slice hrow
  have el : (L k ++ [id]).length = (L k).length + 1 := by simp
  rw [el] at hrow hrun ho
  clear el hc1' hc2'
  have Hrun := Lib.hid hrun
  clear hrun
  have hb4 := (hv3.blk.old (.cells #[.int .u32 id] 29)).beside hg (hv3.nb k hk16)
  have c4 : w4.cell? ⟨b, 1 + k, none⟩ = some (v k) := hb4.cell (1 + k) (hxCells_at b v k hk16)
  have r4 := hb4.free (1 + k)
  clear hb4
  go_wp2_with (at_builtin; refine Lib.wpList_append_run _ rfl _ _ _ _ rfl _ _ rfl rfl _ _ Hrun.out ?_)
  go_ret
  refine ⟨rfl, Hx.put h1 h2 h4 f3 hv3 hk16 (((Frm.refl _ w3).alloc _).grown hg (fun j _ e => e)) hrow (fun g hg2 => (ho g hg2).imp (fun x => x) (fun e => ?_))⟩
  simp at e; omega

/-- Adding an id to the items. -/
def addI (I : List (Nat × Nat)) (k id : Nat) : List (Nat × Nat) := if (k, id) ∈ I then I else I ++ [(k, id)]
def addR (I : List (Nat × Nat)) (k id : Nat) : Nat := if (k, id) ∈ I then 6 else 0
theorem add_any (b : Nat) (s : List UInt8) (id : Nat) (I : List (Nat × Nat)) (fp : Nat → Prop) (w : World) (h : Hx w b (sel I) fp) (hs : s.length ≤ 9223372036854775807) (hl : I.length ≤ 900000) :
    Calls Try.prog 59 #[.pointer (some ⟨b, 0, none⟩), .string (bs s), .int .u32 id] w (HxTo b (sel (addI I (bk s) id)) fp (addR I (bk s) id) w) := by
  by_cases hm : (bk s, id) ∈ I
  · unfold addI addR
    rw [if_pos hm, if_pos hm]
    exact add_in b s id (sel I) fp w h hs (mem_sel.2 hm)
  · unfold addI addR
    rw [if_neg hm, if_neg hm]
    have e : sel (I ++ [(bk s, id)]) = upd (sel I) (bk s) (sel I (bk s) ++ [id]) := by
      funext j
      rw [sel_snoc, upd]
      by_cases e : bk s = j
      · subst e; simp
      · rw [if_neg e, if_neg (Ne.symm e)]
    rw [e]
    exact add_out b s id (sel I) fp w h hs (fun h => hm (mem_sel.1 h)) (Nat.le_trans (sel_len I _) hl)

set_option maxRecDepth 100000 in
set_option maxHeartbeats 1000000 in
theorem find_any (b : Nat) (s : List UInt8) (L : Nat → List Nat) (fp : Nat → Prop) (w : World) (h : Hx w b L fp) (hs : s.length ≤ 9223372036854775807) (hl : (L (bk s)).length ≤ 1000000) :
    Calls Try.prog 49 #[.pointer (some ⟨b, 0, none⟩), .string (bs s)] w (NewIds (L (bk s)) w) := by
  have hk16 := bk_lt s
  have hB : ∀ W, Calls Try.prog 61 #[.string (bs s)] W fun e w' => e = .returned (.int .u8 (bk s : Nat)) ∧ Frm (fun _ => False) W w' := fun W => (bucket_any s W hs).mono fun _ _ ⟨h, g⟩ => ⟨h, Frm.ofDrew g⟩
  generalize bk s = k at *
  have HB := Lib.hid hB
  clear hB
  obtain ⟨h1, h2, v, hv, h4⟩ := h
  have hC : ∀ W, Frm (fun _ => False) w W → Calls Try.prog 65 #[v k] W fun e w' => NewIds (L k) w e w' := fun W hf => (clone_any (v k) (L k) W ((hv.own k hk16).ids.keepF hf) hl).mono fun _ _ ⟨v', a, c, d, e⟩ => ⟨v', a, c, hf.trans d, fun g hg => Nat.le_trans hf.size (e g hg)⟩
  have HC := Lib.hid hC
  clear hC
  have hA : ∀ W, Frm (fun _ => False) w W → W.cell? ⟨b, 1 + k, none⟩ = some (v k) := fun W hf => (hv.keepF hf).at k hk16
  have HA := Lib.hid hA
  clear hA
  have ka : (0 : Int) ≤ (k : Int) := by omega
  have kb : (k : Int) < 16 := by omega
  go_enter Try.func49, Try.ntmps49
  go_wp2_with fail
  refine (made_any b L v _ hv).mono ?_
  rintro e w1 ⟨rfl, rfl⟩
  have f0 := Frm.refl (fun _ => False) w
  have c0 := HA.out w f0
  go_wp2_with fail
  go_region_held3 (fun w' => w'.cell? ⟨b, 1 + k, none⟩ = some (v k) ∧ Frm (fun _ => False) w w')
    (((try dsimp only); (try go_split_ands); (repeat' apply And.intro) <;> (first
      | assumption
      | exact Frm.drew (by assumption)
      | exact HA.out _ (Frm.trans (by assumption) gg)
      | (refine Frm.trans ?_ gg; assumption)
      | go_keep)))
    (first
      | (go_at_call 61; (with_reducible refine (HB.out _).mono ?_); rintro e ww ⟨rfl, gg⟩)
      | (go_at_call 65; (with_reducible refine (HC.out _ (And.right (by assumption))).mono ?_); rintro e ww ⟨v', rfl, g1, gg, g3⟩))
  go_wp2_with fail
  go_ret
  exact ⟨v', rfl, g1, gg, g3⟩
end Go.Proofs.Ytjodkgbpbibfbaa
