/- What is known, as it lies in memory: is an event known; one event more. No condition. -/
import Derived.Test.YtojbgckabifnjaaSwD
import Derived.Test.YtojbgckabifnjaaHistK
namespace Go.Proofs.Ytojbgckabifnjaa
open Go.RowKit

/-- An event's cells. -/
def evc (p : EvI × Value) : List Value := [.int .u8 p.1.x.r, .int .u32 p.1.x.n, .bool p.1.is, .string (bs p.1.x.s), p.2]
theorem evc_len (p : EvI × Value) : (evc p).length = 5 := rfl
/-- What is known, only read. -/
structure KL (W : World) (u : Value) (P : List (EvI × Value)) : Prop where
  sl : Sl W 5 u P.length (flat evc P)
  ov : ∀ p ∈ P, DL W p.2 p.1.o
section
variable {W W' : World} {u : Value} {P Q : List (EvI × Value)}
theorem KL.keepF (h : KL W u P) (g : Frm (fun _ => False) W W') : KL W' u P := ⟨Sl.keepF h.sl g, fun p hp => (h.ov p hp).keepF g⟩
theorem KL.nil_ (W : World) : KL W (.slice none 0 0) [] := ⟨Sl.nil_ W 5 none 0 (by decide), fun _ h => absurd h List.not_mem_nil⟩
theorem KL.slice (h : KL W u P) : ∃ a cap, u = .slice a P.length cap ∧ P.length ≤ cap ∧ cap ≤ maxLen := Sl.slice h.sl
theorem KL.one (h : KL W u P) : ∀ x ∈ flat evc P, x.oneCell' = true := fun x hx => by
  obtain ⟨p, hp, hx⟩ := List.mem_flatMap.1 (show x ∈ P.flatMap evc by simpa [flat, List.flatMap] using hx)
  obtain ⟨a, c, e, _, _⟩ := (h.ov p hp).slice
  simp only [evc, List.mem_cons, List.not_mem_nil, or_false] at hx
  rcases hx with rfl | rfl | rfl | rfl | rfl
  · rfl
  · rfl
  · rfl
  · rfl
  · rw [e]; rfl
theorem KL.cells {a : Option Addr} {cap : Nat} (h : KL W (.slice a P.length cap) P) (k : Nat) (hk : k < P.length) :
    ∃ g off, a = some ⟨g, off, none⟩ ∧ W.cell? ⟨g, off + k * 5, none⟩ = some (.int .u8 P[k].1.x.r) ∧ W.cell? ⟨g, off + k * 5 + 1, none⟩ = some (.int .u32 P[k].1.x.n) ∧ W.cell? ⟨g, off + k * 5 + 2, none⟩ = some (.bool P[k].1.is) ∧ W.cell? ⟨g, off + k * 5 + 3, none⟩ = some (.string (bs P[k].1.x.s)) ∧ W.cell? ⟨g, off + k * 5 + 4, none⟩ = some P[k].2 := by
  obtain ⟨g, off, rfl, _, hc⟩ := Sl.elem evc evc_len h.sl k hk (by omega)
  exact ⟨g, off, rfl, hc 0 (by omega), by rw [Nat.add_assoc]; exact hc 1 (by omega), by rw [Nat.add_assoc]; exact hc 2 (by omega), by rw [Nat.add_assoc]; exact hc 3 (by omega), by rw [Nat.add_assoc]; exact hc 4 (by omega)⟩
end
theorem Try.info91 : (Try.prog.info? 91).map (fun i => (i.zero, i.size, i.bytes)) = some (some (.agg #[.int .u8 0, .int .u32 0, .bool false, .string ⟨#[]⟩, .slice none 0 0]), 5, 56) := by kernel_rfl
/-- Events are appended. -/
theorem append_evs (w : World) (v x : Value) (P Q : List (EvI × Value)) (h : Row w 5 v P.length (flat evc P)) (hs : KL w x Q) (hb : P.length + Q.length ≤ 1000000) :
    ∃ v' w', (Builtin.append_ #[80, 80] 80 #[v, x]).run Try.prog w = .ok v' w' ∧ Row w' 5 v' (P ++ Q).length (flat evc (P ++ Q)) ∧ w.grownBy w' v.ownBlock ∧ (∀ g, v'.ownBlock = some g → v.ownBlock = some g ∨ w.heap.size ≤ g) := by
  obtain ⟨i0, hi, hz0, hz1, hz2⟩ := info_parts Try.info91
  obtain ⟨v', w', h1, h2, h3, h4⟩ := run_append_row w 80 80 80 91 i0 (.agg #[.int .u8 0, .int .u32 0, .bool false, .string ⟨#[]⟩, .slice none 0 0]) 5 56 Try.underlying80 hi hz0 hz1 hz2 rfl h x Q.length (flat evc Q)
    (Sl.src hs.sl Try.underlying80 hs.one) (by unfold maxLen; omega) (by omega)
  exact ⟨v', w', h1, by rw [List.length_append, flat_append]; exact h2, h3, h4⟩
theorem Row.blkOf {w : World} {s n : Nat} {v : Value} {xs : List Value} (h : Row w s v n xs) : ∀ g, blkOf v = some g → v.ownBlock = some g := fun g hg => by
  rcases h.2 with ⟨e, _⟩ | ⟨g', c', e, _⟩
  · subst e; cases hg
  · subst e; cases hg; rfl
/-- The dots that are known. -/
def dotsK (P : List (EvI × Value)) : List DotI := P.map (fun p => p.1.x.d)
set_option maxRecDepth 100000 in
set_option maxHeartbeats 1000000 in
theorem knhas_any (u : Value) (P : List (EvI × Value)) (x : DotI) (w : World) (h : KL w u P) :
    Calls Try.prog 75 #[.agg #[u], .agg (dv x.r x.n)] w fun e w' => e = .returned (.bool (decide (x ∈ dotsK P))) ∧ Frm (fun _ => False) w w' := by
  obtain ⟨a, cap, rfl, hc1, hc2⟩ := h.slice
  unfold maxLen at hc2
  have g0 : Frm (fun _ => False) w ((w.alloc (.cells #[.slice a P.length cap] 82)).alloc (.cells (dv x.r x.n) 48)) := ((Frm.refl _ w).alloc _).alloc _
  have b0 : Blk ((w.alloc (.cells #[.slice a P.length cap] 82)).alloc (.cells (dv x.r x.n) 48)) w.heap.size 82 #[.slice a P.length cap] := (Blk.alloc w _ _).old _
  have b1 : Blk ((w.alloc (.cells #[.slice a P.length cap] 82)).alloc (.cells (dv x.r x.n) 48)) (w.heap.size + 1) 48 (dv x.r x.n) := Blk.at1 w _ _ _
  have h1 := h.keepF g0
  have hdk : ∀ k (hk : k < P.length), (dotsK P)[k]'(by unfold dotsK; rw [List.length_map]; exact hk) = P[k].1.x.d := fun k hk => by simp [dotsK]
  have hdl : (dotsK P).length = P.length := by simp [dotsK]
  go_enter Try.func75, Try.ntmps75
  go_upto_region 2 with fail
  generalize (w.alloc (.cells #[.slice a P.length cap] 82)).alloc (.cells (dv x.r x.n) 48) = w1 at *
  generalize w.heap.size = A at *
  have HDK := Lib.hid hdk
  have HDL := Lib.hid hdl
  clear hdk hdl
  go_loopw [5] (fun i wr => ∃ k : Nat, k ≤ P.length ∧ i = .int .i64 k ∧ (∀ j (hj : j < P.length), j < k → P[j].1.x.d ≠ x) ∧ Frm (fun _ => False) w1 wr) (fun i _ => P.length - (intOf i).toNat)
  case atStart => exact ⟨0, Nat.zero_le _, rfl, fun j _ h => by omega, Frm.refl _ _⟩
  case round =>
    obtain ⟨k, hk, rfl, hbef, f1⟩ := hrel
    have HB := Lib.hid hbef
    clear hbef
    have b0 := b0.keep f1 (fun h => h)
    have b1 := b1.keep f1 (fun h => h)
    have d0 := b1.cell 0 rfl
    have d1 := b1.cell 1 rfl
    have s0 := b0.cell 0 rfl
    clear b0 b1
    by_cases hlt : k < P.length
    · have hk0 : (0 : Int) ≤ (k : Int) := by omega
      have hki : (k : Int) < (P.length : Int) := by omega
      obtain ⟨g, off, rfl, c0, c1, _, _, _⟩ := (h1.keepF f1).cells k hlt
      have E : ∀ W, (Op.equalIn 10000 48 (.agg (dv P[k].1.x.r P[k].1.x.n)) (.agg (dv x.r x.n))).run Try.prog W = .ok (decide (P[k].1.x.d = x)) W := fun W => run_eq_rdot P[k].1.x.d x W
      generalize hq : decide (P[k].1.x.d = x) = q at *
      have HQ := Lib.hid hq
      clear hq
      go_upto_region 4 with fail
      go_quiet (fail)
      have f2 : Frm (fun _ => False) w1 (wr.drewN nq) := f1.trans ((Frm.refl _ wr).drewN nq)
      cases q with
      | true =>
        go_wp2_with fail
        go_ret
        have hx := of_decide_eq_true HQ.out
        have hin : decide (x ∈ dotsK P) = true := decide_eq_true (List.mem_map.2 ⟨P[k], List.getElem_mem hlt, hx⟩)
        exact ⟨by rw [hin]; rfl, g0.trans f2⟩
      | false =>
        go_wp2_with fail
        go_roundw
        case rel =>
          refine ⟨k + 1, by omega, by go_num, fun j hj hjk => ?_, f2⟩
          by_cases e : j = k
          · subst e; exact of_decide_eq_false HQ.out
          · exact HB.out j hj (by omega)
        case measure => simp [intOf]; omega
    · obtain rfl : k = P.length := by omega
      have hn : x ∉ dotsK P := fun h => by
        obtain ⟨p, hp, e⟩ := List.mem_map.1 h
        obtain ⟨j, hj, ej⟩ := List.getElem_of_mem hp
        exact absurd (by rw [ej]; exact e) (HB.out j hj hj)
      have HN := Lib.hid hn
      clear hn
      go_wp2_with fail
      go_ret
      exact ⟨by rw [decide_eq_false HN.out]; rfl, g0.trans f1⟩

theorem knhas_ev (u : Value) (P : List (EvI × Value)) (x : EvI) (w : World) (h : KL w u P) :
    Calls Try.prog 75 #[.agg #[u], .agg (dv x.x.r x.x.n)] w fun e w' => e = .returned (.bool (decide (x.x.d ∈ dotsK P))) ∧ Frm (fun _ => False) w w' := knhas_any u P x.x.d w h
/-- What is known, and an event more. -/
def KnTo (P : List (EvI × Value)) (w : World) (e : Ending) (w' : World) : Prop := ∃ u', e = .returned (.agg #[u']) ∧ KL w' u' P ∧ (∀ g, Go.Proofs.Ytojbgckabifnjaa.blkOf u' = some g → w.heap.size ≤ g) ∧ Frm (fun _ => False) w w'
set_option maxRecDepth 100000 in
set_option maxHeartbeats 2000000 in
theorem with_any (u : Value) (P : List (EvI × Value)) (x : EvI) (v : Value) (w : World) (h : KL w u P) (hv : DL w v x.o) (hb : P.length ≤ 1000) :
    Calls Try.prog 39 #[.agg #[u], .agg #[.int .u8 x.x.r, .int .u32 x.x.n, .bool x.is, .string (bs x.x.s), v]] w (KnTo (P ++ [(x, v)]) w) := by
  obtain ⟨a, cap, rfl, hc1, hc2⟩ := h.slice
  obtain ⟨av, cv, rfl, hv1, hv2⟩ := hv.slice
  have g0 : Frm (fun _ => False) w (((w.alloc (.cells #[.slice a P.length cap] 82)).alloc (.cells #[.int .u8 x.x.r, .int .u32 x.x.n, .bool x.is, .string (bs x.x.s), .slice av x.o.length cv] 91)).alloc (.cells #[.slice none 0 0] 82)) := (((Frm.refl _ w).alloc _).alloc _).alloc _
  have b0 : Blk (((w.alloc (.cells #[.slice a P.length cap] 82)).alloc (.cells #[.int .u8 x.x.r, .int .u32 x.x.n, .bool x.is, .string (bs x.x.s), .slice av x.o.length cv] 91)).alloc (.cells #[.slice none 0 0] 82)) w.heap.size 82 #[.slice a P.length cap] := ((Blk.alloc w _ _).old _).old _
  have b1 : Blk (((w.alloc (.cells #[.slice a P.length cap] 82)).alloc (.cells #[.int .u8 x.x.r, .int .u32 x.x.n, .bool x.is, .string (bs x.x.s), .slice av x.o.length cv] 91)).alloc (.cells #[.slice none 0 0] 82)) (w.heap.size + 1) 91 #[.int .u8 x.x.r, .int .u32 x.x.n, .bool x.is, .string (bs x.x.s), .slice av x.o.length cv] := (Blk.at1 w _ _ _).old _
  have b2 : Blk (((w.alloc (.cells #[.slice a P.length cap] 82)).alloc (.cells #[.int .u8 x.x.r, .int .u32 x.x.n, .bool x.is, .string (bs x.x.s), .slice av x.o.length cv] 91)).alloc (.cells #[.slice none 0 0] 82)) (w.heap.size + 1 + 1) 82 #[.slice none 0 0] := Blk.at2 w _ _ _ _
  go_enter Try.func39, Try.ntmps39
  go_upto_region 2 with fail
  generalize (((w.alloc (.cells #[.slice a P.length cap] 82)).alloc (.cells #[.int .u8 x.x.r, .int .u32 x.x.n, .bool x.is, .string (bs x.x.s), .slice av x.o.length cv] 91)).alloc (.cells #[.slice none 0 0] 82)) = w1 at *
  have h1 := h.keepF g0
  have hv' := hv.keepF g0
  obtain ⟨A, hA⟩ : ∃ A, w.heap.size = A := ⟨_, rfl⟩
  have HA := Lib.hid hA
  rw [hA] at b0 b1 b2 ⊢
  have H0 := Lib.hid h
  have HV0 := Lib.hid hv
  clear hA h hv
  obtain ⟨v2, w2, hrun, hrow, hgr, hnew⟩ := append_evs w1 (.slice none 0 0) _ [] P (Row.nil_ _ 5) h1 (by simp; omega)
  rw [List.nil_append] at hrow
  obtain ⟨a2, c2, rfl, hd1, hd2⟩ := Row.slice hrow
  have g2 : Frm (fun _ => False) w1 w2 := (Frm.refl _ w1).grown hgr (fun k _ e => by cases e)
  have c0 := b0.cell 0 rfl
  have hA3 : A + 3 ≤ w1.heap.size := b2.lt
  have hn2 : ∀ g, Value.ownBlock (.slice a2 P.length c2) = some g → w1.heap.size ≤ g := fun g e => (hnew g e).elim (fun e => by cases e) (fun e => e)
  have Hrun := Lib.hid hrun
  clear hrun hgr hnew
  go_upto_region 3 with (at_builtin; refine Lib.wpList_append_run _ rfl _ _ _ _ rfl _ _ rfl rfl _ _ Hrun.out ?_)
  have b1 := b1.keep g2 (fun h => h)
  have b2 := b2.keep g2 (fun h => h)
  have lE : (Instr.loadAt 91 (.pointer (some ⟨A + 1, 0, none⟩))).run Try.prog w2 = .ok (.agg #[.int .u8 x.x.r, .int .u32 x.x.n, .bool x.is, .string (bs x.x.s), .slice av x.o.length cv]) w2 :=
    run_loadAt_mid w2 (A + 1) 0 91 #[.int .u8 x.x.r, .int .u32 x.x.n, .bool x.is, .string (bs x.x.s), .slice av x.o.length cv].toList _ (fun j u hu => by rw [Nat.zero_add]; exact b1.cell j (by rw [← Array.getElem?_toList]; exact hu)) Try.underlying91 rfl (by show _ = some 5; kernel_rfl)
  have f3 : Frm (fun _ => False) w2 (w2.alloc (.cells #[.int .u8 x.x.r, .int .u32 x.x.n, .bool x.is, .string (bs x.x.s), .slice av x.o.length cv] 91)) := (Frm.refl _ w2).alloc _
  have hone : KL (w2.alloc (.cells #[.int .u8 x.x.r, .int .u32 x.x.n, .bool x.is, .string (bs x.x.s), .slice av x.o.length cv] 91)) (.slice (some ⟨w2.heap.size, 0, none⟩) 1 1) [(x, .slice av x.o.length cv)] := ⟨Sl.built evc evc_len w2 91 (x, .slice av x.o.length cv) #[.int .u8 x.x.r, .int .u32 x.x.n, .bool x.is, .string (bs x.x.s), .slice av x.o.length cv] rfl, fun p hp => by
    obtain rfl := List.mem_singleton.1 hp
    exact (hv'.keepF g2).keepF f3⟩
  obtain ⟨v4, w4, hrun, hrow4, hgr, hnew⟩ := append_evs _ _ _ P [(x, .slice av x.o.length cv)] (Row.keep hrow f3 (fun _ _ h => h)) hone (by simp; omega)
  have el : (P ++ [(x, Value.slice av x.o.length cv)]).length = P.length + 1 := by simp
  rw [el] at hrow4
  obtain ⟨a4, c4, rfl, _, _⟩ := Row.slice hrow4
  have g4 : Frm (fun k => Value.ownBlock (.slice a2 P.length c2) = some k) w2 w4 := (f3.mono (fun _ _ h => h.elim)).grown hgr (fun k _ e => e)
  have b2 := b2.keep g4 (fun e => by have := hn2 _ e; omega)
  have hn4 : ∀ g, Value.ownBlock (.slice a4 (P.length + 1) c4) = some g → A + 3 ≤ g := fun g e => (hnew g e).elim (fun e => by have := hn2 g e; omega) (fun e => by have := f3.size; have := g2.size; omega)
  have HOV : Hid (∀ W, Frm (fun k => Value.ownBlock (.slice a2 P.length c2) = some k) w2 W → True) := Lib.hid fun _ _ => trivial
  have Hrun := Lib.hid hrun
  have HR4 := Lib.hid hrow4
  have HN4 := Lib.hid hn4
  have HG := Lib.hid (show Frm (fun _ => False) w w4 from (g0.trans g2).next g4 (fun k hk e => by have := hn2 k e; have := HA.out; omega))
  clear hrun hgr hnew hrow4 hn4 hn2 hrow el hone f3 g4 g2 g0 h1 hv' b0 b1 c0 HOV
  go_wp2_with (first
    | ((with_reducible refine wpl_load rfl _ rfl ?_ lE ?_); (focus rfl))
    | (at_builtin; refine Lib.wpList_append_run _ rfl _ _ _ _ rfl _ _ rfl rfl _ _ Hrun.out ?_)
    | ((with_reducible refine wpl_store_blk rfl 82 _ _ rfl (A + 1 + 1) #[.slice a4 (P.length + 1) c4] #[.slice none 0 0] ?_ ?_ b2 rfl ?_ ?_ ?_); (focus rfl); (focus rfl); (focus (show _ = some 1; kernel_rfl)); (focus (simp [Value.oneCell'])); intro w5 e5 g5 z5; have r0 := e5.cell 0 rfl))
  refine bodyPost_ret (v := .agg #[.slice a4 (P.length + 1) c4]) (by simp [results, Try.results39, go_sem, r0]) rfl ?_
  have g6 : Frm (fun _ => False) w w5 := HG.out.next g5 (fun k hk e => by have e : k = A + 1 + 1 := e; have := HA.out; omega)
  refine ⟨_, rfl, ⟨by rw [show (P ++ [(x, Value.slice av x.o.length cv)]).length = P.length + 1 by simp]; exact Sl.ofRow (Row.keep HR4.out g5 (fun g e h => by have h : g = A + 1 + 1 := h; have := HN4.out g e; omega)), fun p hp => ?_⟩, fun g e => by have := HN4.out g (HR4.out.blkOf g e); have := HA.out; omega, HG.out.next g5 (fun k hk e => by have e : k = A + 1 + 1 := e; have := HA.out; omega)⟩
  rcases List.mem_append.1 hp with hp | hp
  · exact (H0.out.ov p hp).keepF g6
  · obtain rfl := List.mem_singleton.1 hp
    exact HV0.out.keepF g6
end Go.Proofs.Ytojbgckabifnjaa

