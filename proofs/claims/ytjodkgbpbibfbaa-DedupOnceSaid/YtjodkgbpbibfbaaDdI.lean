/- A table's calls keep what the statements' functions ask; tables that are none; the statements' small functions at a table. No condition. -/
import Derived.Test.YtjodkgbpbibfbaaDdF
import Derived.Test.YtjodkgbpbibfbaaDdG
import Derived.Test.YtjodkgbpbibfbaaDdL
namespace Go.Proofs.Ytjodkgbpbibfbaa
open Go.RowKit

section
variable {p : Option Addr} {w : World}
set_option maxRecDepth 100000 in
theorem tadd_none (s z : Value) (hm : Calls Try.prog 35 #[.pointer p] w fun e w' => e = .returned (.bool false) ∧ w = w') :
    Calls Try.prog 13 #[.pointer p, s, z] w fun e w' => e = .returned (.tuple #[.int .u32 0, .int .i64 1]) ∧ w = w' := by
  have HM := Lib.hid hm
  clear hm
  go_enter Try.func13, Try.ntmps13
  go_wp2_with fail
  refine HM.out.mono ?_
  rintro e w1 ⟨rfl, rfl⟩
  go_wp2_with fail
  go_ret2
  exact ⟨rfl, rfl⟩
set_option maxRecDepth 100000 in
theorem tload_none (i s z q : Value) (hm : Calls Try.prog 35 #[.pointer p] w fun e w' => e = .returned (.bool false) ∧ w = w') :
    Calls Try.prog 27 #[.pointer p, i, s, z, q] w fun e w' => e = .returned (.int .i64 1) ∧ w = w' := by
  have HM := Lib.hid hm
  clear hm
  go_enter Try.func27, Try.ntmps27
  go_wp2_with fail
  refine HM.out.mono ?_
  rintro e w1 ⟨rfl, rfl⟩
  go_wp2_with fail
  go_ret
  exact ⟨rfl, rfl⟩
set_option maxRecDepth 100000 in
theorem tfind_none (s : Value) (hm : Calls Try.prog 35 #[.pointer p] w fun e w' => e = .returned (.bool false) ∧ w = w') :
    Calls Try.prog 20 #[.pointer p, s] w fun e w' => e = .returned (.tuple #[.int .u32 0, .bool false]) ∧ w = w' := by
  have HM := Lib.hid hm
  clear hm
  go_enter Try.func20, Try.ntmps20
  go_wp2_with fail
  refine HM.out.mono ?_
  rintro e w1 ⟨rfl, rfl⟩
  go_wp2_with fail
  go_ret2
  exact ⟨rfl, rfl⟩
set_option maxRecDepth 100000 in
theorem tcount_none (hm : Calls Try.prog 35 #[.pointer p] w fun e w' => e = .returned (.bool false) ∧ w = w') :
    Calls Try.prog 31 #[.pointer p] w fun e w' => e = .returned (.int .i64 0) ∧ w = w' := by
  have HM := Lib.hid hm
  clear hm
  go_enter Try.func31, Try.ntmps31
  go_wp2_with fail
  refine HM.out.mono ?_
  rintro e w1 ⟨rfl, rfl⟩
  go_wp2_with fail
  go_ret
  exact ⟨rfl, rfl⟩
set_option maxRecDepth 100000 in
theorem tnext_none (hm : Calls Try.prog 35 #[.pointer p] w fun e w' => e = .returned (.bool false) ∧ w = w') :
    Calls Try.prog 26 #[.pointer p] w fun e w' => e = .returned (.int .u32 0) ∧ w = w' := by
  have HM := Lib.hid hm
  clear hm
  go_enter Try.func26, Try.ntmps26
  go_wp2_with fail
  refine HM.out.mono ?_
  rintro e w1 ⟨rfl, rfl⟩
  go_wp2_with fail
  go_ret
  exact ⟨rfl, rfl⟩
set_option maxRecDepth 100000 in
theorem tcopy_none (hm : ∀ W, Frm (fun _ => False) w W → Calls Try.prog 35 #[.pointer p] W fun e w' => e = .returned (.bool false) ∧ W = w') :
    Calls Try.prog 11 #[.pointer p] w fun e w' => e = .returned (.pointer none) ∧ Frm (fun _ => False) w w' := by
  have g1 := (Frm.refl (fun _ => False) w).alloc (.cells #[.pointer p] 25)
  have HM := Lib.hid (hm _ g1)
  have G1 := Lib.hid g1
  clear hm g1
  go_enter Try.func11, Try.ntmps11
  go_wp2_with fail
  refine HM.out.mono ?_
  rintro e w1 ⟨rfl, rfl⟩
  go_wp2_with fail
  go_ret
  exact ⟨rfl, G1.out⟩
/-- What look up answers where there is no table. -/
theorem look_up_none (i : Value) (hm : ∀ W, Frm (fun _ => False) w W → Calls Try.prog 35 #[.pointer p] W fun e w' => e = .returned (.bool false) ∧ W = w') :
    Calls Try.prog 40 #[.pointer p, i] w fun e w' => e = .returned (.tuple #[chv zCh, .int .i64 1]) ∧ Frm (fun _ => False) w w' := by
  have b1 := Blk.alloc w 79 #[.string ⟨#[]⟩, .int .i64 0, .int .i64 0]
  have g1 := (Frm.refl (fun _ => False) w).alloc (.cells #[.string ⟨#[]⟩, .int .i64 0, .int .i64 0] 79)
  have HM := Lib.hid (hm _ g1)
  have G1 := Lib.hid g1
  clear hm g1
  go_enter Try.func40, Try.ntmps40
  go_wp2_with fail
  refine HM.out.mono ?_
  rintro e w1 ⟨rfl, rfl⟩
  go_wp2_with (first
    | (refine wpl_store_ch rfl (.tmp 4) (.tmp 11) rfl w.heap.size zCh _ rfl rfl b1 rfl ?_; intro w4 b4 g4 s4; have e0 := b4.cell 0 rfl; have e1 := b4.cell 1 rfl; have e2 := b4.cell 2 rfl)
    | fail)
  (try simp only [Exit.inBlock, Exit.then])
  refine bodyPost_ret (results_ch rfl _ _ w.heap.size zCh rfl b4) rfl ?_
  exact ⟨rfl, G1.out.next g4 (fun k hk e => by omega)⟩
set_option maxRecDepth 100000 in
theorem thold_none (i : Value) (hm : ∀ W, Frm (fun _ => False) w W → Calls Try.prog 35 #[.pointer p] W fun e w' => e = .returned (.bool false) ∧ W = w') :
    Calls Try.prog 21 #[.pointer p, i] w fun e w' => e = .returned (.int .i64 1) ∧ Frm (fun _ => False) w w' := by
  have HL := Lib.hid (look_up_none i hm)
  clear hm
  go_enter Try.func21, Try.ntmps21
  go_wp2_with fail
  refine HL.out.mono ?_
  rintro e w1 ⟨rfl, g1⟩
  have b1 := Blk.alloc w1 79 #[.string ⟨#[]⟩, .int .i64 0, .int .i64 0]
  have G1 := Lib.hid (g1.alloc (.cells #[.string ⟨#[]⟩, .int .i64 0, .int .i64 0] 79))
  have hs1 := g1.size
  clear g1
  go_wp2_with (first
    | (refine wpl_store_ch rfl (.tmp 5) (.tmp 11) rfl w1.heap.size zCh _ rfl rfl b1 rfl ?_; intro w3 b3 g3 s3)
    | fail)
  go_ret
  exact ⟨rfl, G1.out.next g3 (fun k hk e => by omega)⟩
set_option maxRecDepth 100000 in
theorem trel_none (i : Value) (hm : ∀ W, Frm (fun _ => False) w W → Calls Try.prog 35 #[.pointer p] W fun e w' => e = .returned (.bool false) ∧ W = w') :
    Calls Try.prog 14 #[.pointer p, i] w fun e w' => e = .returned (.tuple #[.bool false, .int .i64 1]) ∧ Frm (fun _ => False) w w' := by
  have HL := Lib.hid (look_up_none i hm)
  clear hm
  go_enter Try.func14, Try.ntmps14
  go_wp2_with fail
  refine HL.out.mono ?_
  rintro e w1 ⟨rfl, g1⟩
  have b1 := Blk.alloc w1 79 #[.string ⟨#[]⟩, .int .i64 0, .int .i64 0]
  have G1 := Lib.hid (g1.alloc (.cells #[.string ⟨#[]⟩, .int .i64 0, .int .i64 0] 79))
  have hs1 := g1.size
  clear g1
  go_wp2_with (first
    | (refine wpl_store_ch rfl (.tmp 6) (.tmp 11) rfl w1.heap.size zCh _ rfl rfl b1 rfl ?_; intro w3 b3 g3 s3)
    | fail)
  go_ret2
  exact ⟨rfl, G1.out.next g3 (fun k hk e => by omega)⟩
end
/-- A table of the call's own: all of it lies above n0. -/
def TabU (n0 : Nat) (w0 w : World) (b : Nat) (T : TbV) : Prop := ∃ fp, TabM w b T fp ∧ (∀ k, fp k → n0 ≤ k) ∧ Frm (n0 ≤ ·) w0 w
section
variable {n0 b : Nat} {w0 w w' : World} {T T' : TbV}
theorem TabU.step (h : TabU n0 w0 w b T) (hn : n0 ≤ w.heap.size) : ∃ fp, TabM w b T fp ∧ ∀ T' w', TabTo b fp T' w w' → TabU n0 w0 w' b T' := by
  obtain ⟨fp, h1, h2, h3⟩ := h
  refine ⟨fp, h1, fun T' w' ⟨fp', a1, a2, a3⟩ => ⟨fp', a1, fun k hk => (a3 k hk).elim (h2 k) (fun e => by omega), h3.trans (a2.mono fun k _ e => h2 k e)⟩⟩
theorem TabU.size (h : TabU n0 w0 w b T) : w0.heap.size ≤ w.heap.size := by
  obtain ⟨fp, _, _, h3⟩ := h
  exact h3.size
theorem TabU.frm (h : TabU n0 w0 w b T) : Frm (n0 ≤ ·) w0 w := by
  obtain ⟨fp, _, _, h3⟩ := h
  exact h3
theorem TabU.ok (h : TabU n0 w0 w b T) : T.ok := by
  obtain ⟨fp, h1, _⟩ := h
  exact h1.ok
theorem TabU.keepF (h : TabU n0 w0 w b T) (f : Frm (fun _ => False) w w') : TabU n0 w0 w' b T := by
  obtain ⟨fp, h1, h2, h3⟩ := h
  exact ⟨fp, h1.keepF f, h2, h3.trans (f.mono fun _ _ h => h.elim)⟩
end
end Go.Proofs.Ytjodkgbpbibfbaa
