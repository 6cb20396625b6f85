/- What SortFunc does to siblings: these, in the order of their dots. Of at most twelve. -/
import Derived.Test.YtiokabhidjafeaaDoorSibO
import Derived.Test.YtiokabhidjafeaaDoorShelf
section
namespace Go.Proofs.YtiokabhidjafeaaDoor
open Go.RowKit

theorem sib_holds {w : World} {g cap : Nat} {l : List SibI} (h : OwnL w (.slice (some ⟨g, 0, none⟩) l.length cap) l) : Go.Sort.HoldsK sibc 3 w g 0 l.toArray := by
  intro j hj
  have hs : (Go.Sort.flatK sibc 3 l.toArray).size = l.length * 3 := by simp [Go.Sort.flatK]
  rw [hs] at hj
  rcases h.2 with ⟨e, _⟩ | ⟨g', cap', e, h1, h2, h3, h4, h5⟩
  · cases e
  · cases e
    have hj2 : j < cap * 3 := by have := Nat.mul_le_mul_right 3 h1; omega
    rw [Nat.zero_add]
    refine ⟨?_, (h5 j hj2).2⟩
    have hd : j / 3 < l.length := by omega
    have hm : j % 3 < 3 := Nat.mod_lt _ (by omega)
    have hf := flat_at sibc sibc_len l (j / 3) hd (j % 3) hm
    rw [show j / 3 * 3 + j % 3 = j by omega] at hf
    rw [h4 j hj, hf]
    have hg : (Go.Sort.flatK sibc 3 l.toArray)[j]! = (sibc l[j / 3])[j % 3]! := by
      rw [Go.Sort.get_flatK _ _ _ _ (by simpa using hj)]
      simp [hd]
    rw [hg]
    have hl : j % 3 < (sibc l[j / 3]).length := hm
    simp [hl]
theorem grow_old (w : World) (os : Array Obj) (k : Nat) (h : k < w.heap.size) : (Go.Sort.grow w os).heap[k]? = w.heap[k]? := by
  simp only [Go.Sort.grow]
  exact Array.getElem?_append_left h
theorem sort_frm (w : World) (g n : Nat) (d : Array SibI) (os : Array Obj) : Frm (· = g) w (sortWorldK sibc 3 w g 0 n d os) := by
  refine ⟨rfl, rfl, rfl, size_sortWorldK_c sibc 3 w g 0 n d os, fun k hk hn => ?_⟩
  unfold sortWorldK
  rw [grow_old _ _ _ (by simpa [Go.Sort.putRowK, Go.Sort.size_putRow, Go.Sort.ahead] using hk)]
  simp only [Go.Sort.putRowK, Go.Sort.putRow, Go.Sort.mapBlock, Go.Sort.ahead, Array.getElem?_modify]
  rw [if_neg (fun e => hn e.symm)]
theorem sort_own {w : World} {g cap : Nat} {l l' : List SibI} (n : Nat) (os : Array Obj) (h : OwnL w (.slice (some ⟨g, 0, none⟩) l.length cap) l) (hl : l'.length = l.length) :
    OwnL (sortWorldK sibc 3 w g 0 n l'.toArray os) (.slice (some ⟨g, 0, none⟩) l.length cap) l' := by
  have hH := sib_holds h
  have hlt : g < w.heap.size := Row.blk h g rfl
  have hK := holdsK_sortWorldK_c sibc 3 w g 0 l.toArray l'.toArray n os hH hlt (by simpa using hl)
  rcases h.2 with ⟨e, _⟩ | ⟨g', cap', e, h1, h2, ⟨o, ho, hoc⟩, h4, h5⟩
  · cases e
  · cases e
    have hblk : (sortWorldK sibc 3 w g 0 n l'.toArray os).heap[g]? = (Go.Sort.putRowK sibc 3 (Go.Sort.ahead w n) g 0 l'.toArray).heap[g]? := by
      unfold sortWorldK
      exact grow_old _ _ _ (by simpa [Go.Sort.putRowK, Go.Sort.size_putRow, Go.Sort.ahead] using hlt)
    refine ⟨by rw [flat_len sibc sibc_len], .inr ⟨g, cap, by rw [hl], by omega, h2, ?_, fun j hj => ?_, fun j hj => ?_⟩⟩
    · rw [hblk]
      simp only [Go.Sort.putRowK, Go.Sort.putRow, Go.Sort.mapBlock, Go.Sort.ahead, Array.getElem?_modify, if_true, ho, Option.map_some]
      cases o <;> first | (simp [Obj.isCells] at hoc; done) | exact ⟨_, rfl, rfl⟩
    · have hd : j / 3 < l'.length := by omega
      have hm : j % 3 < 3 := Nat.mod_lt _ (by omega)
      have hc := (hK.cell (i := j / 3) (c := j % 3) (by simpa using hd) hm).1
      rw [show 0 + j / 3 * 3 + j % 3 = j by omega] at hc
      have hf := flat_at sibc sibc_len l' (j / 3) hd (j % 3) hm
      rw [show j / 3 * 3 + j % 3 = j by omega] at hf
      rw [hc, hf]
      have hll : j % 3 < (sibc l'[j / 3]).length := hm
      simp [hd, hll]
    · have e1 := World.cell?_of_block (a := ⟨g, j, none⟩) hblk
      have e2 := World.frozen?_of_block (a := ⟨g, j, none⟩) hblk
      rw [e1, e2]
      refine ⟨?_, ?_⟩
      · by_cases hj3 : j < l.length * 3
        · have hd : j / 3 < l'.length := by omega
          have hm : j % 3 < 3 := Nat.mod_lt _ (by omega)
          have hc := (hK.cell (i := j / 3) (c := j % 3) (by simpa using hd) hm).1
          rw [show 0 + j / 3 * 3 + j % 3 = j by omega, e1] at hc
          rw [hc]; rfl
        · have hs : (Go.Sort.flatK sibc 3 l'.toArray).size = l.length * 3 := by simp [Go.Sort.flatK, hl]
          show ((Go.Sort.putRow id (Go.Sort.ahead w n) g 0 (Go.Sort.flatK sibc 3 l'.toArray)).cell? ⟨g, j, none⟩).isSome = true
          rw [Go.Sort.cell?_putRow_other id _ _ _ _ _ (.inr (.inr (by rw [hs]; show 0 + l.length * 3 ≤ j; omega)))]
          exact (h5 j hj).1
      · show (Go.Sort.putRow id (Go.Sort.ahead w n) g 0 (Go.Sort.flatK sibc 3 l'.toArray)).frozen? ⟨g, j, none⟩ = false
        rw [Go.Sort.frozen?_putRow]
        exact (h5 j hj).2
/-- Which dot stands first. -/
def ltD (x y : SibI) : Prop := x.n < y.n ∨ x.n = y.n ∧ x.r < y.r
theorem cmpD_lt (x y : SibI) : cmpD x.r x.n y.r y.n < 0 ↔ ltD x y := by
  unfold cmpD orI cmpN ltD
  rcases Nat.lt_trichotomy x.n y.n with h | h | h
  · simp [h]
  · rcases Nat.lt_trichotomy x.r y.r with h2 | h2 | h2
    · simp [h, h2]
    · simp [h, h2]
    · have h3 : ¬ x.r < y.r := by omega
      simp [h, h2, h3]
  · have h3 : ¬ x.n < y.n := by omega
    have h4 : ¬ x.n = y.n := by omega
    simp [h, h3, h4]
theorem swoD : Go.Sort.SWO (ltOf fun x y : SibI => cmpD x.r x.n y.r y.n) where
  irrefl x := by
    unfold ltOf
    rw [decide_eq_false_iff_not, cmpD_lt]
    unfold ltD; omega
  trans x y z h1 h2 := by
    unfold ltOf at *
    rw [decide_eq_true_eq, cmpD_lt] at *
    unfold ltD at *; omega
  ntrans x y z h1 h2 := by
    unfold ltOf at *
    rw [decide_eq_false_iff_not, cmpD_lt] at *
    unfold ltD at *; omega
theorem five_grow (w : World) (o1 o2 o3 o4 o5 : Obj) : ((((w.alloc o1).alloc o2).alloc o3).alloc o4).drew.alloc o5 = Go.Sort.grow (w.drewN 1) #[o1, o2, o3, o4, o5] := by
  simp only [Go.Sort.alloc_eq_grow, Go.Sort.grow_grow]
  rw [show ∀ os, (Go.Sort.grow w os).drew = Go.Sort.grow w.drew os from fun _ => rfl, Go.Sort.grow_grow]
  rfl
theorem cmpLays (blk off size : Nat) (w : World) : CmpLays Tryd.prog 44 #[] sibc 3 (fun x y => cmpD x.r x.n y.r y.n) blk off size w := fun m os dk _ x y =>
  (join3_lays x y (sortWorldK sibc 3 w blk off m dk os)).mono fun e w' ⟨h1, o1, o2, o3, o4, o5, h2⟩ => ⟨h1, 1, #[o1, o2, o3, o4, o5], by
    rw [h2]; exact five_grow _ _ _ _ _ _⟩
theorem lenAny (n : Nat) (W : World) (h : n ≤ 12) : Calls Tryd.prog 70 #[.int .u64 n] W fun e w' => (∃ l : Int, e = .returned (.int .i64 l)) ∧ w' = W :=
  (Any.bits_Len Tryd.lays125 n W (by omega) (by omega)).mono fun _ _ ⟨he, hw⟩ => ⟨⟨_, he⟩, hw⟩

/-- Do the dots of siblings stand in order? -/
def inOrder (l : List SibI) : Prop := ∀ i j (hi : i < l.length) (hj : j < l.length), i < j → ¬ ltD l[j] l[i]
theorem ssort_any (g cap : Nat) (l : List SibI) (w : World) (h : OwnL w (.slice (some ⟨g, 0, none⟩) l.length cap) l) (h12 : l.length ≤ 12) :
    Calls Tryd.prog 43 #[.slice (some ⟨g, 0, none⟩) l.length cap, .func (.func 44) #[] #[]] w fun e w' => e = .returned (.tuple #[]) ∧
      ∃ l', l'.Perm l ∧ inOrder l' ∧ OwnL w' (.slice (some ⟨g, 0, none⟩) l.length cap) l' ∧ Frm (· = g) w w' := by
  have eg : ∀ args w, (callFunc 44 args).run Tryd.prog w = .ok (.enter 44 args) w := enters_of Tryd.func44 (by kernel_rfl) rfl
  have hcon := AnyQ.slices_SortFunc_small_sorted Tryd.sortSib 3 Tryd.isAgg63 Tryd.sizeOf63 sibc sibc_len (fun x v hv => sibc_one x v hv) (fun x y => cmpD x.r x.n y.r y.n) 44 #[] swoD g 0 cap l.toArray w eg (cmpLays g 0 l.toArray.size w) (sib_holds h) (Row.blk h g rfl) (by simpa using h12) lenAny
  refine hcon.mono fun e w' ⟨h1, d', n, os, hp, hs, hw⟩ => ⟨h1, d'.toList, ?_, ?_, ?_, ?_⟩
  · obtain ⟨hsz, _, hperm⟩ := hp
    have e1 : d'.extract 0 l.toArray.size = d' := by rw [← hsz]; exact Array.extract_size
    have e2 : l.toArray.extract 0 l.toArray.size = l.toArray := Array.extract_size
    rw [e1, e2] at hperm
    simpa using hperm
  · intro i j hi hj hij
    have hsz : d'.size = l.length := by simpa using hp.1
    have h3 := hs i j (by omega) hij (by simp at hj ⊢; omega)
    unfold ltOf at h3
    rw [decide_eq_false_iff_not, cmpD_lt] at h3
    simp only [Array.length_toList] at hi hj
    simpa [hi, hj] using h3
  · have hsz : d'.toList.length = l.length := by simpa using hp.1
    have := sort_own (l' := d'.toList) n os h hsz
    rw [hw]
    simpa using this
  · rw [hw]; exact sort_frm w g n d' os

end Go.Proofs.YtiokabhidjafeaaDoor
end
section
namespace Go.Proofs.YtiokabhidjafeaaDoor
open Go.RowKit

set_option maxRecDepth 100000 in
set_option maxHeartbeats 2000000 in
theorem isort_nil (c : Value) (w : World) : Calls Tryd.prog 87 #[.slice none 0 0, .int .i64 0, .int .i64 0, c] w fun e w' => e = .returned (.tuple #[]) ∧ w = w' := by
  go_enter Tryd.func87, Tryd.ntmps87
  go_wp2_with fail
  go_loop [8] (fun i => i = .int .i64 1) (fun _ => 0)
  case atStart => rfl
  case round =>
    subst hrel
    go_wp2_with fail
    go_end0
    exact ⟨rfl, rfl⟩
set_option maxRecDepth 100000 in
set_option maxHeartbeats 2000000 in
theorem pdq_nil (lim : Int) (c : Value) (w : World) : Calls Tryd.prog 69 #[.slice none 0 0, .int .i64 0, .int .i64 0, .int .i64 lim, c] w fun e w' => e = .returned (.tuple #[]) ∧ w = w' := by
  have HI := Lib.hid (isort_nil c)
  go_enter Tryd.func69, Tryd.ntmps69
  go_wp2_with fail
  go_loop [1, 2] (fun a b => a = .int .i64 0 ∧ b = .int .i64 0) (fun _ _ => 0)
  case atStart => exact ⟨rfl, rfl⟩
  case round =>
    obtain ⟨rfl, rfl⟩ := hrel
    go_wp2_with fail
    refine (HI.out _).mono ?_
    rintro e w2 ⟨rfl, rfl⟩
    go_wp2_with fail
    refine bodyPost_ret (results_none rfl _ _ _) rfl ?_
    exact ⟨rfl, rfl⟩
set_option maxRecDepth 100000 in
set_option maxHeartbeats 2000000 in
theorem ssort_nil (c : Value) (w : World) : Calls Tryd.prog 43 #[.slice none 0 0, c] w fun e w' => e = .returned (.tuple #[]) ∧ w = w' := by
  have HP := Lib.hid (fun lim W => pdq_nil lim c W)
  have HL := Lib.hid (lenAny 0 w (by omega))
  go_enter Tryd.func43, Tryd.ntmps43
  go_wp2_with fail
  refine HL.out.mono ?_
  rintro e w1 ⟨⟨q, rfl⟩, rfl⟩
  go_wp2_with fail
  refine (HP.out _ _).mono ?_
  rintro e w2 ⟨rfl, rfl⟩
  go_wp2_with fail
  go_end0
  exact ⟨rfl, rfl⟩
end Go.Proofs.YtiokabhidjafeaaDoor
end
