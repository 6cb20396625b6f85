/- What Join wants of dots; what Same, Lost want. No condition. -/
import Derived.Test.YtmdmkcofafhlcaaSibM
import Derived.Test.YtmdmkcofafhlcaaSibF
namespace Go.Proofs.Ytmdmkcofafhlcaa
open Go.RowKit

set_option maxRecDepth 100000 in
set_option maxHeartbeats 1000000 in
/-- What wants a dot that a register's context doesn't have. -/
theorem join2_any (b : Nat) (f : Nat → Nat) (v : Value) (x : SibI) (w : World) (hb : Blk w b 39 (rgc f v)) :
    Calls Try.prog 65 (#[.agg (dv x.r x.n)] ++ #[.pointer (some ⟨b, 0, none⟩)]) w fun e w' => e = .returned (.bool (!has8 f x.r x.n)) ∧ Frm (fun _ => False) w w' := by
  have g0 : Frm (fun _ => False) w (w.alloc (.cells (dv x.r x.n) 27)) := (Frm.refl _ w).alloc _
  have b0 := Blk.alloc w 27 (dv x.r x.n)
  have d0 := b0.cell 0 rfl
  have d1 := b0.cell 1 rfl
  have lC := load_ctx (hb.keep g0 (fun h => h))
  have HX := Lib.hid (fun W => has_any f x.r x.n W x.hr x.hn)
  generalize has8 f x.r x.n = q at *
  clear b0 hb
  show Calls Try.prog 65 #[.agg (dv x.r x.n), .pointer (some ⟨b, 0, none⟩)] w _
  go_enter Try.func65, Try.ntmps65
  go_wp2_with ((with_reducible refine wpl_load rfl _ rfl ?_ lC ?_); (focus rfl))
  refine (HX.out _).mono ?_
  rintro e w2 ⟨rfl, f2⟩
  clear lC
  cases q
  all_goals
    go_wp2_with fail
    go_ret
    exact ⟨rfl, g0.trans f2⟩

theorem zeroUnit (w : World) : (zeroValue 121).run Try.prog w = .ok (.agg #[]) w := Try.zeroValue121 w
set_option maxRecDepth 100000 in
set_option maxHeartbeats 2000000 in
/-- What wants a dot that is in a set, or that a register's context doesn't have. -/
theorem join1_any (bm bs' b : Nat) (f : Nat → Nat) (v : Value) (l : List SibI) (x : SibI) (w : World) (hm : Blk w bm 119 #[.map (some bs')]) (hs : DM w bs' l) (hb : Blk w b 39 (rgc f v)) :
    Calls Try.prog 64 (#[.agg (dv x.r x.n)] ++ #[.pointer (some ⟨bm, 0, none⟩), .pointer (some ⟨b, 0, none⟩)]) w fun e w' => e = .returned (.bool (decide (x.d ∈ l.map SibI.d) || !has8 f x.r x.n)) ∧ Frm (fun _ => False) w w' := by
  have g0 : Frm (fun _ => False) w (w.alloc (.cells (dv x.r x.n) 27)) := (Frm.refl _ w).alloc _
  have b0 := Blk.alloc w 27 (dv x.r x.n)
  have d0 := b0.cell 0 rfl
  have d1 := b0.cell 1 rfl
  have m0 := (hm.keep g0 (fun h => h)).cell 0 rfl
  have hbr := hb.keep g0 (fun h => h)
  have HX := Lib.hid (fun W => has_any f x.r x.n W x.hr x.hn)
  obtain ⟨n, D, hown, hn, hmap, hhas⟩ := hs.keep g0 (fun h => h)
  have hkey : keyOf Try.prog 27 (.agg (dv x.r x.n)) = some (keyL x.d) := keyL_eq x.d
  have hh := hhas x.d
  generalize has8 f x.r x.n = q at *
  generalize decide (x.d ∈ l.map SibI.d) = p at *
  have HH := Lib.hid hh
  clear b0 hb hm hs hhas hh hmap
  show Calls Try.prog 64 #[.agg (dv x.r x.n), .pointer (some ⟨bm, 0, none⟩), .pointer (some ⟨b, 0, none⟩)] w _
  go_enter Try.func64, Try.ntmps64
  go_upto_region 2 with (at_lookup; refine wpList_lookup_own_unit _ rfl _ _ 119 rfl 27 121 dotKeyed Try.underlying119 (zeroUnit _) bs' n D rfl hown _ _ rfl hkey ?_)
  rw [HH.out]
  have g1 : Frm (fun _ => False) w ((w.alloc (.cells (dv x.r x.n) 27)).alloc (.cells #[] 121)) := g0.alloc _
  have hbr := hbr.old (.cells #[] 121)
  have c := rcells hbr
  have e0 := ((Blk.alloc w 27 (dv x.r x.n)).old (.cells #[] 121)).cell 0 rfl
  have e1 := ((Blk.alloc w 27 (dv x.r x.n)).old (.cells #[] 121)).cell 1 rfl
  generalize (w.alloc (.cells (dv x.r x.n) 27)).alloc (.cells #[] 121) = w2 at *
  clear hown hkey HH hbr d0 d1 m0 g0
  cases p with
  | true =>
    go_wp2_with fail
    go_ret
    exact ⟨rfl, g1⟩
  | false =>
    go_wp2_with fail
    refine (HX.out _).mono ?_
    rintro e w3 ⟨rfl, f3⟩
    clear c e0 e1
    cases q
    all_goals
      go_wp2_with fail
      go_ret
      exact ⟨rfl, g1.trans f3⟩
end Go.Proofs.Ytmdmkcofafhlcaa

