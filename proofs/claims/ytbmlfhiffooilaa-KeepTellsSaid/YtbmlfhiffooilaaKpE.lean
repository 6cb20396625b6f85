/- Rules: all, and the newest ones of buckets. No condition but that there are at most a million versions. -/
import Derived.Test.YtbmlfhiffooilaaKpD
import Derived.Deep.Cut
import Derived.OwnWalk
import Derived.WideLaws
namespace Go.Proofs.Ytbmlfhiffooilaa
open Go.RowKit Go.Shelf

/-- Versions that are only read. -/
def stc (s : StI) : List Value := [.int .u32 (s.id : Int), .int .u32 (s.tick : Int)]
theorem stc_len (s : StI) : (stc s).length = 2 := rfl
theorem stc_one (s : StI) : ∀ u ∈ stc s, u.oneCell' = true := fun u hu => by
  simp only [stc, List.mem_cons, List.not_mem_nil, or_false] at hu
  rcases hu with rfl | rfl <;> rfl
def StL (w : World) (v : Value) (l : List StI) : Prop := Sl w 2 v l.length (flat stc l)
theorem StL.keepF {w w' : World} {v : Value} {l : List StI} (h : StL w v l) (hf : Frm (fun _ => False) w w') : StL w' v l := Sl.keepF h hf
theorem StL.slice {w : World} {v : Value} {l : List StI} (h : StL w v l) : ∃ a cap, v = .slice a l.length cap ∧ l.length ≤ cap ∧ cap ≤ maxLen := Sl.slice h
theorem StL.elem {w : World} {a : Option Addr} {cap : Nat} {l : List StI} (h : StL w (.slice a l.length cap) l) (k : Nat) (hk : k < l.length) : ∃ g off, a = some ⟨g, off, none⟩ ∧ w.cell? ⟨g, off + k * 2, none⟩ = some (.int .u32 (l[k].id : Int)) ∧ w.cell? ⟨g, off + k * 2 + 1, none⟩ = some (.int .u32 (l[k].tick : Int)) := by
  obtain ⟨g, off, rfl, _, hc⟩ := Sl.elem stc stc_len h k hk (by omega)
  exact ⟨g, off, rfl, hc 0 (by omega), by rw [Nat.add_assoc]; exact hc 1 (by omega)⟩

@[go_sem] theorem run_store_func {P : Program} {w : World} (a : Addr) (m : Mode) (f : Fn) (x y : Array Value) : (store a (.func f x y) m).run P w = stored P w a (.func f x y) m := run_store P w a _ m rfl
theorem run_makeTop (w : World) : (Instr.makeMap 67 none).run Try.prog w = .ok (.map (some w.heap.size)) (w.alloc (.map #[] 0)) := by
  simp [Instr.makeMap, go_sem]
set_option maxRecDepth 100000 in
set_option maxHeartbeats 2000000 in
theorem all9_any (u : Nat) (w : World) : Calls Try.prog 29 #[.int .u32 (u : Int)] w fun e w' => e = .returned (.agg #[.int .u32 (u : Int), .func (.func 32) #[] #[]]) ∧ Frm (fun _ => False) w w' := by
  have b0 : Blk (w.alloc (.cells #[.int .u32 (u : Int), .nilFunc] 59)) w.heap.size 59 #[.int .u32 (u : Int), .nilFunc] := Blk.alloc w _ _
  have g1 := (Frm.refl (fun _ => False) w).alloc (.cells #[.int .u32 (u : Int), .func (.func 32) #[] #[]] 59)
  have m1 := b0.free 1
  have p1 := b0.cell 1 rfl
  go_enter Try.func29, Try.ntmps29
  go_wp2_with fail
  refine bodyPost_ret (v := .agg #[.int .u32 (u : Int), .func (.func 32) #[] #[]]) (by simp [results, Try.results29, go_sem]) rfl ?_
  exact ⟨rfl, g1⟩
set_option maxRecDepth 100000 in
set_option maxHeartbeats 4000000 in
theorem newest_any (u wd : Nat) (v : Value) (l : List StI) (w : World) (hwd : 0 < wd) (hwl : wd ≤ 1000) (h : StL w v l) (hb : l.length ≤ 1000000) :
    Calls Try.prog 30 #[.int .u32 (u : Int), v, .int .u32 (wd : Int)] w fun e w' => ∃ fv, e = .returned (.agg #[.int .u32 (u : Int), fv]) ∧ KeepsTo w' fv (firstS l wd) ∧ Frm (fun _ => False) w w' := by
  obtain ⟨a, cap, rfl, hc1, hc2⟩ := h.slice
  unfold maxLen at hc2
  have hmm := run_makeTop
  go_enter Try.func30, Try.ntmps30
  have b5 : Blk ((((w.alloc (.cells #[.int .u32 (wd : Int)] 22)).alloc (.cells #[.int .u32 0, .nilFunc] 59)).alloc (.map #[] 0)).alloc (.cells #[.map (some (w.heap.size + 1 + 1))] 67)) w.heap.size 22 #[.int .u32 (wd : Int)] := (((Blk.alloc w _ _).old _).old _).old _
  have b6 : Blk ((((w.alloc (.cells #[.int .u32 (wd : Int)] 22)).alloc (.cells #[.int .u32 0, .nilFunc] 59)).alloc (.map #[] 0)).alloc (.cells #[.map (some (w.heap.size + 1 + 1))] 67)) (w.heap.size + 1) 59 #[.int .u32 0, .nilFunc] := ((Blk.atS w _ _ _ _).old _).old _
  have b7 : Blk ((((w.alloc (.cells #[.int .u32 (wd : Int)] 22)).alloc (.cells #[.int .u32 0, .nilFunc] 59)).alloc (.map #[] 0)).alloc (.cells #[.map (some (w.heap.size + 1 + 1))] 67)) (w.heap.size + 1 + 1 + 1) 67 #[.map (some (w.heap.size + 1 + 1))] := by
    have h := Blk.alloc (((w.alloc (.cells #[.int .u32 (wd : Int)] 22)).alloc (.cells #[.int .u32 0, .nilFunc] 59)).alloc (.map #[] 0)) 67 #[.map (some (w.heap.size + 1 + 1))]
    simpa using h
  have tm : TopM ((((w.alloc (.cells #[.int .u32 (wd : Int)] 22)).alloc (.cells #[.int .u32 0, .nilFunc] 59)).alloc (.map #[] 0)).alloc (.cells #[.map (some (w.heap.size + 1 + 1))] 67)) (w.heap.size + 1 + 1) wd [] := by
    have h := TopM.start ((w.alloc (.cells #[.int .u32 (wd : Int)] 22)).alloc (.cells #[.int .u32 0, .nilFunc] 59)) wd
    have e : ((w.alloc (.cells #[.int .u32 (wd : Int)] 22)).alloc (.cells #[.int .u32 0, .nilFunc] 59)).heap.size = w.heap.size + 1 + 1 := by simp
    rw [e] at h
    exact h.keep ((Frm.refl (fun _ => False) _).alloc _) (fun h => h)
  have g0 : Frm (fun _ => False) w ((((w.alloc (.cells #[.int .u32 (wd : Int)] 22)).alloc (.cells #[.int .u32 0, .nilFunc] 59)).alloc (.map #[] 0)).alloc (.cells #[.map (some (w.heap.size + 1 + 1))] 67)) := ((((Frm.refl _ w).alloc _).alloc _).alloc _).alloc _
  go_upto_region 2 with fail
  generalize ((((w.alloc (.cells #[.int .u32 (wd : Int)] 22)).alloc (.cells #[.int .u32 0, .nilFunc] 59)).alloc (.map #[] 0)).alloc (.cells #[.map (some (w.heap.size + 1 + 1))] 67)) = w1 at *
  obtain ⟨A, hA⟩ : ∃ A, w.heap.size = A := ⟨_, rfl⟩
  have hgz := g0.size
  have HA := Lib.hid hA
  rw [hA] at b5 b6 b7 tm hgz ⊢
  clear hA hmm
  have HZ := Lib.hid hgz
  have hmf : ∀ (fn : Fn) (first cap : Array Value) (w : World), (Instr.makeFunc fn first cap).run Try.prog w = .ok (.func fn first cap) w := fun _ _ _ _ => rfl
  have hwn : ¬ wd = 0 := by omega
  have HL := Lib.hid h
  have HG := Lib.hid g0
  clear h g0 hgz
  go_wp2_with fail
  go_loopw [14] (fun i wr => ∃ k : Nat, k ≤ l.length ∧ i = .int .i64 k ∧ Blk wr (A + 1 + 1 + 1) 67 #[.map (some (A + 1 + 1))] ∧ TopM wr (A + 1 + 1) wd (l.take k) ∧ Blk wr A 22 #[.int .u32 (wd : Int)] ∧ Blk wr (A + 1) 59 #[.int .u32 0, .nilFunc] ∧ Frm (fun _ => False) w wr) (fun i _ => l.length - (intOf i).toNat)
  case atStart => exact ⟨0, Nat.zero_le _, rfl, b7, by rw [List.take_zero]; exact tm, b5, b6, HG.out⟩
  case round =>
    obtain ⟨k, hk, rfl, h1, h2, h3, h4, g1⟩ := hrel
    by_cases hlt : k < l.length
    · have hki : (k : Int) < (l.length : Int) := by omega
      have hk0 : (0 : Int) ≤ (k : Int) := by omega
      obtain ⟨g, off, rfl, e0, e1⟩ := (HL.out.keepF g1).elem k hlt
      obtain ⟨s, hs⟩ : ∃ s, l[k] = s := ⟨_, rfl⟩
      have HS := Lib.hid hs
      rw [hs] at e0 e1
      clear hs
      obtain ⟨q, hqe⟩ : ∃ q, s.tick / wd = q := ⟨_, rfl⟩
      have hq : q ≤ 4294967295 := by rw [← hqe]; exact Nat.le_trans (Nat.div_le_self _ _) s.ht
      have hwr : IntKind.u32.wrap ((s.tick : Int) / (wd : Int)) = (q : Int) := by
        rw [← Int.natCast_ediv, hqe]
        exact IntWalk.u32_in _ (by omega)
      have HQ := Lib.hid hqe
      clear hqe
      have g2 : Frm (fun _ => False) wr (wr.alloc (.cells (stv s) 24)) := (Frm.refl _ wr).alloc _
      have x0 : Blk (wr.alloc (.cells (stv s) 24)) wr.heap.size 24 (stv s) := Blk.alloc wr _ _
      have x1 := h1.keep g2 (fun h => h)
      have x2 := h2.keep g2 (fun h => h)
      have x3 := h3.keep g2 (fun h => h)
      have x4 := h4.keep g2 (fun h => h)
      have p0 := x0.cell 0 rfl
      have p1 := x0.cell 1 rfl
      have p2 := x1.cell 0 rfl
      have p3 := x3.cell 0 rfl
      have hlk := x2.look q hq
      have HN := Lib.hid (newer_any s (top (l.take k) wd q) (wr.alloc (.cells (stv s) 24)))
      have G2 := Lib.hid (g1.trans g2)
      obtain ⟨wz, hwz⟩ : ∃ wz, wr.heap.size = wz := ⟨_, rfl⟩
      have HW := Lib.hid hwz
      go_wp2_with fail
      refine HN.out.mono ?_
      rintro e w2 ⟨rfl, g3⟩
      have hwz := HW.out
      have y0 := x0.keep g3 (fun h => h)
      have y1 := x1.keep g3 (fun h => h)
      have y2 := x2.keep g3 (fun h => h)
      have y3 := x3.keep g3 (fun h => h)
      have y4 := x4.keep g3 (fun h => h)
      have G3 := Lib.hid (G2.out.trans g3)
      have hlen : (l.take k).length = k := by rw [List.length_take]; omega
      have htk : l.take (k + 1) = l.take k ++ [s] := by rw [List.take_succ_eq_append_getElem hlt, HS.out]
      have HT := Lib.hid htk
      have HLEN := Lib.hid hlen
      rw [hwz] at y0
      clear htk hlen hwz x0 x1 x2 x3 x4 p0 p1 p2 p3 hlk HN e0 e1 h1 h2 h3 h4 g1 g2 g3
      have r0 := y0.cell 0 rfl
      have r1 := y0.cell 1 rfl
      have r2 := y1.cell 0 rfl
      cases hn : newer s (top (l.take k) wd q) with
      | true =>
        have hn' := hn
        rw [← HQ.out] at hn'
        obtain ⟨n, D, hown, hnl, hmap, hat⟩ := y2
        have hput := TopM.put s hmap hat hn'
        rw [HQ.out, ← HT.out] at hput
        rw [HLEN.out] at hnl
        have hkey := u32_key q hq
        have HP := Lib.hid hput
        have HM := Lib.hid (hmap.put (.int .u32 (q : Int)) (stD s))
        have HN1 := Lib.hid hnl
        have Y1 := Lib.hid y1
        have Y3 := Lib.hid y3
        have Y4 := Lib.hid y4
        have hnm : n < maxLen := by unfold maxLen; omega
        clear hput hmap hat hn' y0 y1 y3 y4 hnl
        go_wp2_with (first | (at_mapUpdate; refine wpList_mapUpdate_own _ rfl _ _ _ 67 rfl 22 24 (Go.Maps.int_keyed Try.underlying22) Try.underlying67 stElem (A + 1 + 1) n D rfl hown hnm _ _ _ rfl rfl hkey _ [] (stElem_mk s) ?_; intro w3 hown3 hgrow3) | fail)
        have hX : Frm (· = A + 1 + 1) w2 w3 := (Frm.refl _ w2).grown hgrow3 (fun k _ e => by cases e; rfl)
        have hAz := HA.out
        go_roundw
        case rel => exact ⟨k + 1, hlt, by go_num, Y1.out.keep hX (by omega), ⟨n + 1, _, hown3, by rw [HT.out, List.length_append, HLEN.out]; have := HN1.out; simp; omega, HM.out, HP.out⟩, Y3.out.keep hX (by omega), Y4.out.keep hX (by omega), G3.out.next hX (fun q hq e => by omega)⟩
        case measure => simp [intOf]; omega
      | false =>
        have hn' := hn
        rw [← HQ.out] at hn'
        have y2' := y2.skip s hn'
        rw [← HT.out] at y2'
        have Y := Lib.hid (And.intro y1 (And.intro y2' (And.intro y3 y4)))
        clear y0 y1 y2 y2' y3 y4 hn'
        go_wp2_with fail
        go_roundw
        case rel =>
          obtain ⟨z1, z2, z3, z4⟩ := Y.out
          exact ⟨k + 1, hlt, by go_num, z1, z2, z3, z4, G3.out⟩
        case measure => simp [intOf]; omega
    · obtain rfl : k = l.length := by omega
      have n0 := h4.free 0
      have n1 := h4.free 1
      have m0 := h4.cell 0 rfl
      have m1 := h4.cell 1 rfl
      rw [List.take_length] at h2
      have hAz := HA.out
      have E := (h4.set 0 (.int .u32 (u : Int))).set 1 (.func (.func 33) #[] #[.pointer (some ⟨A + 1 + 1 + 1, 0, none⟩), .pointer (some ⟨A, 0, none⟩)])
      have q0 := E.cell 0 rfl
      have q1 := E.cell 1 rfl
      have F := (g1.setCell (p := ⟨A + 1, 0, none⟩) (fun h => absurd h (by simp; omega)) (.int .u32 (u : Int))).setCell (p := ⟨A + 1, 1, none⟩) (fun h => absurd h (by simp; omega)) (.func (.func 33) #[] #[.pointer (some ⟨A + 1 + 1 + 1, 0, none⟩), .pointer (some ⟨A, 0, none⟩)])
      have FB := ((Frm.refl (· = A + 1) wr).setCell (p := ⟨A + 1, 0, none⟩) (fun _ => rfl) (.int .u32 (u : Int))).setCell (p := ⟨A + 1, 1, none⟩) (fun _ => rfl) (.func (.func 33) #[] #[.pointer (some ⟨A + 1 + 1 + 1, 0, none⟩), .pointer (some ⟨A, 0, none⟩)])
      have EX := Lib.hid (And.intro F (And.intro (h1.keep FB (by omega)) (And.intro (h2.keep FB (by omega)) (h3.keep FB (by omega)))))
      clear F FB h1 h2 h3 h4 g1 E hAz
      go_wp2_with fail
      refine bodyPost_ret (v := .agg #[.int .u32 (u : Int), .func (.func 33) #[] #[.pointer (some ⟨A + 1 + 1 + 1, 0, none⟩), .pointer (some ⟨A, 0, none⟩)]]) (by simp [results, Try.results30, go_sem, q0, q1]) rfl ?_
      obtain ⟨F, z1, z2, z3⟩ := EX.out
      exact ⟨_, rfl, ⟨_, _, rfl, enters_of Try.func33 (by kernel_rfl) rfl, fun s W gW => newest1_any _ _ _ wd l s W hwd (z1.keepFB (by decide) gW) (z3.keepFB (by decide) gW) (z2.keepFB gW)⟩, F⟩
end Go.Proofs.Ytbmlfhiffooilaa
