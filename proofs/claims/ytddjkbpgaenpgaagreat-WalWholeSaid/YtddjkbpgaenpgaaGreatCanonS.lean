/- A log in memory; what its small functions answer. No condition. -/
import Derived.Test.YtddjkbpgaenpgaaGreatWlB
import Derived.Test.YtddjkbpgaenpgaaGreatRgW
import Derived.Test.YtddjkbpgaenpgaaGreatCanonT
section
namespace Go.Proofs.YtddjkbpgaenpgaaGreat
open Go.RowKit Go.Shelf

/-- A log: how many blocks each region has, which one is used, its generation, whether an error of the line was told. -/
structure WV where
  n : Nat
  side : Nat
  gen : Nat
  dead : Bool
/-- What is noted of a log at block q: its line at l, its region (rp). -/
def Wlk (w : World) (q l : Nat) (V : WV) (rp : Option Addr) : Prop := Blk w q 91 #[.pointer (some ⟨q, 0, none⟩), .pointer (some ⟨l, 0, none⟩), .int .i64 (V.n : Nat), .int .i64 (V.side : Nat), .int .u32 (V.gen : Nat), .pointer rp, .bool V.dead]
structure WV.ok (V : WV) (N : Nat) : Prop where
  n2 : 2 ≤ V.n
  inn : 2 * V.n ≤ N
  N2 : N ≤ 2048
  s1 : V.side ≤ 1
  glt : V.gen < 4294967296
theorem wl_neq (w : World) (a : Addr) : (binOp .neq 73 (.pointer (some a)) (.pointer none)).run Tryz.prog w = .ok (.bool true) w := by
  have h : ∀ d : Nat, (Op.equalIn (d + 1) 73 (.pointer (some a)) (.pointer none)).run Tryz.prog w = .ok false w := fun d => by
    simp [Op.equalIn, run_underlying Tryz.underlying73]
  simp only [binOp]
  simp [Op.equal, Op.maxDepth, h 9999]
theorem wl_same (w : World) (a : Addr) : (binOp .eql 73 (.pointer (some a)) (.pointer (some a))).run Tryz.prog w = .ok (.bool true) w := by
  obtain ⟨j, hj⟩ := Option.isSome_iff_exists.1 (show (Tryz.prog.info? 91).isSome = true by kernel_rfl)
  exact run_eql_ptr_same w a Tryz.underlying73 hj
theorem rg_neqnn (w : World) : (binOp .neq 37 (.pointer none) (.pointer none)).run Tryz.prog w = .ok (.bool false) w := by
  have h : ∀ d : Nat, (Op.equalIn (d + 1) 37 (.pointer none) (.pointer none)).run Tryz.prog w = .ok true w := fun d => by
    simp [Op.equalIn, run_underlying Tryz.underlying37]
  simp only [binOp]
  simp [Op.equal, Op.maxDepth, h 9999]
theorem rg_neqs (w : World) (a : Addr) : (binOp .neq 37 (.pointer (some a)) (.pointer none)).run Tryz.prog w = .ok (.bool true) w := by
  have h : ∀ d : Nat, (Op.equalIn (d + 1) 37 (.pointer (some a)) (.pointer none)).run Tryz.prog w = .ok false w := fun d => by
    simp [Op.equalIn, run_underlying Tryz.underlying37]
  simp only [binOp]
  simp [Op.equal, Op.maxDepth, h 9999]
/-- There is no log: nil, or one that neither Make nor Open returned. -/
def NoWl (p : Value) (w : World) : Prop := p = .pointer none ∨ ∃ b, p = .pointer (some ⟨b, 0, none⟩) ∧ w.cell? ⟨b, 0, none⟩ = some (.pointer none)
section
variable {w w' : World} {q l : Nat} {V : WV} {rp : Option Addr}
theorem Wlk.keepF (h : Wlk w q l V rp) (hf : Frm (fun _ => False) w w') : Wlk w' q l V rp := Blk.keep h hf (fun h => h)
theorem Wlk.keepX {X : Nat → Prop} (h : Wlk w q l V rp) (hf : Frm X w w') (hn : ¬ X q) : Wlk w' q l V rp := Blk.keep h hf hn
end
set_option maxHeartbeats 400000 in
theorem wmade_any (q l : Nat) (V : WV) (rp : Option Addr) (w : World) (h : Wlk w q l V rp) :
    Calls Tryz.prog 98 #[.pointer (some ⟨q, 0, none⟩)] w fun e w' => e = .returned (.bool true) ∧ w = w' := by
  have c0 := Blk.cell h 0 rfl
  have hq := wl_same
  have hn := wl_neq
  clear h
  go_enter Tryz.func98, Tryz.ntmps98
  go_wp2
  go_ret
  exact ⟨rfl, rfl⟩
set_option maxHeartbeats 1000000 in
theorem wgen_any (q l : Nat) (V : WV) (rp : Option Addr) (w : World) (h : Wlk w q l V rp) :
    Calls Tryz.prog 44 #[.pointer (some ⟨q, 0, none⟩)] w fun e w' => e = .returned (.int .u32 (V.gen : Nat)) ∧ w = w' := by
  have c4 := Blk.cell h 4 rfl
  have HM := Lib.hid (wmade_any q l V rp w h)
  clear h
  go_enter Tryz.func44, Tryz.ntmps44
  go_wp2_with fail
  refine HM.out.mono ?_
  rintro e w1 ⟨rfl, rfl⟩
  go_wp2_with fail
  go_ret
  exact ⟨rfl, rfl⟩
/-- How many bytes the first group may have. -/
def WV.room (V : WV) : Nat := 58 * (V.n - 1)
set_option maxHeartbeats 1000000 in
theorem wroom_any (q l : Nat) (V : WV) (rp : Option Addr) (w : World) (h : Wlk w q l V rp) (h2 : 2 ≤ V.n) (h3 : V.n ≤ 2048) :
    Calls Tryz.prog 49 #[.pointer (some ⟨q, 0, none⟩)] w fun e w' => e = .returned (.int .i64 (V.room : Nat)) ∧ w = w' := by
  have c2 := Blk.cell h 2 rfl
  have HM := Lib.hid (wmade_any q l V rp w h)
  have hs : (V.n : Int) - 1 = ((V.n - 1 : Nat) : Int) := by omega
  have hw1 : IntKind.i64.wrap ((V.n - 1 : Nat) : Int) = ((V.n - 1 : Nat) : Int) := IntWalk.i64_in _ (by omega)
  unfold WV.room
  obtain ⟨m, hm⟩ : ∃ m, V.n - 1 = m := ⟨_, rfl⟩
  rw [hm] at hs hw1 ⊢
  have hw2 : IntKind.i64.wrap (58 * (m : Int)) = 58 * (m : Int) := IntWalk.i64_in _ (by omega)
  have HE := Lib.hid (show (58 * (m : Int)) = ((58 * m : Nat) : Int) by omega)
  clear h h2 h3 hm
  go_enter Tryz.func49, Tryz.ntmps49
  go_wp2_with fail
  refine HM.out.mono ?_
  rintro e w1 ⟨rfl, rfl⟩
  go_wp2_with fail
  go_ret
  exact ⟨by rw [← HE.out]; rfl, rfl⟩
/-- Can groups be committed? -/
def wrB (V : WV) (rp : Option Addr) : Bool := rp.isSome && !V.dead
set_option maxHeartbeats 1000000 in
theorem wwrit_any (q l : Nat) (V : WV) (rp : Option Addr) (w : World) (h : Wlk w q l V rp) :
    Calls Tryz.prog 100 #[.pointer (some ⟨q, 0, none⟩)] w fun e w' => e = .returned (.bool (wrB V rp)) ∧ w = w' := by
  have c5 := Blk.cell h 5 rfl
  have c6 := Blk.cell h 6 rfl
  have HM := Lib.hid (wmade_any q l V rp w h)
  have h1 := rg_neqnn
  have h2 := rg_neqs
  clear h
  unfold wrB
  cases rp with
  | none =>
    go_enter Tryz.func100, Tryz.ntmps100
    go_wp2_with fail
    refine HM.out.mono ?_
    rintro e w1 ⟨rfl, rfl⟩
    go_wp2_with fail
    go_ret
    exact ⟨rfl, rfl⟩
  | some a =>
    cases hd : V.dead with
    | true =>
      rw [hd] at c6
      go_enter Tryz.func100, Tryz.ntmps100
      go_wp2_with fail
      refine HM.out.mono ?_
      rintro e w1 ⟨rfl, rfl⟩
      go_wp2_with fail
      go_ret
      exact ⟨rfl, rfl⟩
    | false =>
      rw [hd] at c6
      go_enter Tryz.func100, Tryz.ntmps100
      go_wp2_with fail
      refine HM.out.mono ?_
      rintro e w1 ⟨rfl, rfl⟩
      go_wp2_with fail
      go_ret
      exact ⟨rfl, rfl⟩
set_option maxHeartbeats 1000000 in
theorem wtakes_any (q l : Nat) (V : WV) (rp : Option Addr) (s : List UInt8) (w : World) (h : Wlk w q l V rp) (h2 : 2 ≤ V.n) (h3 : V.n ≤ 2048) :
    Calls Tryz.prog 92 #[.pointer (some ⟨q, 0, none⟩), .string (bs s)] w fun e w' => e = .returned (.int .i64 (if V.room < s.length then 7 else 0)) ∧ w = w' := by
  have HM := Lib.hid (wroom_any q l V rp w h h2 h3)
  have hsz : (bs s).size = s.length := rfl
  obtain ⟨r, hr⟩ : ∃ r, V.room = r := ⟨_, rfl⟩
  rw [hr] at HM ⊢
  clear h hr
  by_cases hlt : r < s.length
  · have hi : (r : Int) < (s.length : Int) := by omega
    rw [if_pos hlt]
    go_enter Tryz.func92, Tryz.ntmps92
    go_wp2_with fail
    refine HM.out.mono ?_
    rintro e w1 ⟨rfl, rfl⟩
    go_wp2_with fail
    go_ret
    exact ⟨rfl, rfl⟩
  · have hi : ¬ (r : Int) < (s.length : Int) := by omega
    rw [if_neg hlt]
    go_enter Tryz.func92, Tryz.ntmps92
    go_wp2_with fail
    refine HM.out.mono ?_
    rintro e w1 ⟨rfl, rfl⟩
    go_wp2_with fail
    go_ret
    exact ⟨rfl, rfl⟩
set_option maxHeartbeats 1000000 in
theorem wother_any (q l : Nat) (V : WV) (rp : Option Addr) (w : World) (h : Wlk w q l V rp) (h1 : V.side ≤ 1) :
    Calls Tryz.prog 104 #[.pointer (some ⟨q, 0, none⟩)] w fun e w' => e = .returned (.int .i64 ((1 - V.side : Nat) : Int)) ∧ w = w' := by
  have c3 := Blk.cell h 3 rfl
  have hs : 1 - (V.side : Int) = ((1 - V.side : Nat) : Int) := by omega
  obtain ⟨m, hm⟩ : ∃ m, 1 - V.side = m := ⟨_, rfl⟩
  rw [hm] at hs ⊢
  have hw1 : IntKind.i64.wrap (m : Int) = (m : Int) := IntWalk.i64_in _ (by omega)
  clear h hm
  go_enter Tryz.func104, Tryz.ntmps104
  go_wp2_with fail
  go_ret
  exact ⟨rfl, rfl⟩
end Go.Proofs.YtddjkbpgaenpgaaGreat
end
section
namespace Go.Proofs.YtddjkbpgaenpgaaGreat
open Go.RowKit Go.Shelf

/-- A step as a function value: from what holds ahead of it (I k) it makes what holds behind it, or is told an error. -/
def StepTo (I : Nat → World → Prop) (E : Nat → World → Prop) (k : Nat) (v : Value) : Prop :=
  ∃ F pre caps args, v = .func (.func F) pre caps ∧ ((pre = #[] ∧ args = caps) ∨ ∃ p, pre = #[p] ∧ caps = #[] ∧ args = #[p]) ∧ (∀ xs W, (callFunc F xs).run Tryz.prog W = .ok (.enter F xs) W) ∧
    ∀ W, I k W → Calls Tryz.prog F args W fun e W' => ∃ c : Nat, e = .returned (.int .i64 (c : Nat)) ∧ (c = 0 → I (k + 1) W') ∧ (c ≠ 0 → E c W')
set_option maxRecDepth 100000 in
set_option maxHeartbeats 4000000 in
theorem perform_any (g : Nat) (vs : List Value) (I : Nat → World → Prop) (E : Nat → World → Prop) (w : World) (hl : vs.length ≤ 100) (h0 : I 0 w) (hc : ∀ k (h : k < vs.length) W, I k W → W.cell? ⟨g, k, none⟩ = some vs[k]) (hs : ∀ k (h : k < vs.length), StepTo I E k vs[k]) :
    Calls Tryz.prog 90 #[.slice (some ⟨g, 0, none⟩) vs.length vs.length] w fun e w' => ∃ c : Nat, e = .returned (.int .i64 (c : Nat)) ∧ (c = 0 → I vs.length w') ∧ (c ≠ 0 → E c w') := by
  have HC := Lib.hid hc
  have HS := Lib.hid hs
  have H0 := Lib.hid h0
  clear hc hs h0
  go_enter Tryz.func90, Tryz.ntmps90
  go_wp2_with fail
  go_loopw [8] (fun i wr => ∃ k : Nat, k ≤ vs.length ∧ i = .int .i64 k ∧ Hid (I k wr)) (fun i _ => vs.length - (intOf i).toNat)
  case atStart => exact ⟨0, Nat.zero_le _, rfl, H0⟩
  case round =>
    obtain ⟨k, hk, rfl, hi⟩ := hrel
    by_cases hlt : k < vs.length
    · have c1 := HC.out k hlt wr hi.out
      obtain ⟨F, pre, caps, args, hv, hpre, hen, hcall⟩ := HS.out k hlt
      have HK := Lib.hid (hcall wr hi.out)
      rw [hv] at c1
      have hki : (k : Int) < (vs.length : Int) := by omega
      clear hv hcall
      rcases hpre with ⟨rfl, rfl⟩ | ⟨p, rfl, rfl, rfl⟩
      · go_wp2_with fail
        refine HK.out.mono ?_
        rintro e w1 ⟨c, rfl, h1, h2⟩
        have HX := Lib.hid (And.intro h1 h2)
        clear h1 h2
        by_cases hc0 : c = 0
        · have hq : ((c : Int) != 0) = false := by simp; omega
          have HZ := Lib.hid hc0
          clear hc0
          go_wp2_with fail
          go_roundw
          case rel => exact ⟨k + 1, by omega, by go_num, Lib.hid (HX.out.1 HZ.out)⟩
          case measure => simp [intOf]; omega
        · have hq : ((c : Int) != 0) = true := by simp; omega
          have HZ := Lib.hid hc0
          clear hc0
          go_wp2_with fail
          go_ret
          exact ⟨c, rfl, fun h => absurd h HZ.out, HX.out.2⟩
      · go_wp2_with fail
        refine HK.out.mono ?_
        rintro e w1 ⟨c, rfl, h1, h2⟩
        have HX := Lib.hid (And.intro h1 h2)
        clear h1 h2
        by_cases hc0 : c = 0
        · have hq : ((c : Int) != 0) = false := by simp; omega
          have HZ := Lib.hid hc0
          clear hc0
          go_wp2_with fail
          go_roundw
          case rel => exact ⟨k + 1, by omega, by go_num, Lib.hid (HX.out.1 HZ.out)⟩
          case measure => simp [intOf]; omega
        · have hq : ((c : Int) != 0) = true := by simp; omega
          have HZ := Lib.hid hc0
          clear hc0
          go_wp2_with fail
          go_ret
          exact ⟨c, rfl, fun h => absurd h HZ.out, HX.out.2⟩
    · obtain rfl : k = vs.length := by omega
      go_wp2_with fail
      go_ret
      exact ⟨0, rfl, fun _ => hi.out, fun h => absurd rfl h⟩
end Go.Proofs.YtddjkbpgaenpgaaGreat
end
section
namespace Go.Proofs.YtddjkbpgaenpgaaGreat
open Go.RowKit

section
variable {P : Program} {ops : Array Oper} {Q : Exit → Act → World → Prop} {S : World → Prop} {F : Act → Prop}
/-- Each of the first r is waited for by a later one, the r-th one at most; each behind the r-th one waits for one ahead of it, the r-th one at least. -/
def stageB (md : Region.Mode) (ops : Array Oper) (r m : Nat) : Bool :=
  (List.range r).all (fun p => (List.range (r + 1)).any fun q => decide (p < q) && waits md ops q p) && (List.range m).all (fun k => (List.range (k + 1)).any fun d => waits md ops (r + k + 1) (r + d))
/-- What stands behind the r-th operation. -/
def Behind (P : Program) (ops : Array Oper) (Q : Exit → Act → World → Prop) (ts : List Nat) (a : Act) (w : World) : Prop :=
  ∃ S2 : World → Prop, S2 w ∧ Canon P ops S2 (fun a => ∀ w, S2 w → Q .normal a w) ts a
theorem stage_not {md : Region.Mode} {listed : Array Bool} {r m : Nat} (hroot : (List.range m).all (fun k => (List.range (k + 1)).any fun d => waits md ops (r + k + 1) (r + d)) = true) (hc : Closed md ops listed) (hsz : r + m < ops.size) :
    ∀ n j, j - r = n → r < j → j ≤ r + m → (∀ o, ops[j]? = some o → ∀ e ∈ o.after, Region.binds md e = true → listed.getD e.on false = true) → listed.getD r false = true := by
  intro n
  induction n using Nat.strongRecOn with
  | _ n ih =>
    intro j hn hj hjm hall
    have hroot' := hroot
    simp only [List.all_eq_true, List.mem_range, List.any_eq_true] at hroot'
    obtain ⟨d, hd, hw⟩ := hroot' (j - r - 1) (by omega)
    rw [show r + (j - r - 1) + 1 = j by omega] at hw
    obtain ⟨o, ho⟩ : ∃ o, ops[j]? = some o := ⟨_, Array.getElem?_eq_getElem (show j < ops.size by omega)⟩
    obtain ⟨e, he, hb, he2⟩ := (waits_iff ho).1 hw
    have h3 := hall o ho e he hb
    rw [he2] at h3
    rcases Nat.eq_zero_or_pos d with rfl | hpos
    · exact h3
    · exact ih (r + d - r) (by omega) (r + d) rfl (by omega) (by omega) fun o' ho' e' he' hb' => hc (r + d) h3 o' ho' e' he' hb'
theorem canonS_any {md : Region.Mode} {r m : Nat} (hr : r + m < ops.size) (ht : stageB md ops r m = true) (hsel : ∀ (j : Nat) (o : Oper) cs b, ops[j]? = some o → o.op ≠ .select cs b)
    (hF : ∀ a w, F a → S w → wpOp P ops Q r (Behind P ops Q (List.range' (r + 1) m)) a w) :
    ∀ (n : Nat) (is : List Nat) (listed : Array Bool) (a : Act) (w : World), is.length = n → (∀ i ∈ is, i < r) → S w → Left md ops listed (is ++ List.range' r (m + 1)) → Closed md ops listed → Canon P ops S F is a → wpAny P md ops Q (n + (m + 1)) listed a w := by
  simp only [stageB, Bool.and_eq_true] at ht
  obtain ⟨hroot, hst⟩ := ht
  have hcons : List.range' r (m + 1) = r :: List.range' (r + 1) m := List.range'_succ ..
  have hpick : ∀ (is : List Nat) (listed : Array Bool), Left md ops listed (is ++ List.range' r (m + 1)) → Closed md ops listed → ∀ j, j ∈ Region.ready md ops listed → j ∈ is ∨ j = r := by
    intro is listed hv hcl j hj
    obtain ⟨hun, oj, hoj, hall⟩ := mem_ready.1 hj
    have hall2 : ∀ o, ops[j]? = some o → ∀ e ∈ o.after, Region.binds md e = true → listed.getD e.on false = true := fun o ho => by rw [hoj] at ho; cases ho; exact hall
    rcases List.mem_append.1 (hv.here j hun) with hm | hm
    · exact .inl hm
    · have hjm : r ≤ j ∧ j < r + (m + 1) := by simp [List.mem_range'_1] at hm; omega
      rcases Nat.eq_or_lt_of_le hjm.1 with h1 | h1
      · exact .inr h1.symm
      · exfalso
        have h3 := stage_not hst hcl hr (j - r) j rfl h1 (by omega) hall2
        exact unlisted_ne (hv.un r (List.mem_append_right _ (by simp))) h3
  intro n
  induction n with
  | zero =>
    intro is listed a w hl hlt hS hv hcl hc
    obtain rfl : is = [] := List.eq_nil_of_length_eq_zero hl
    rw [Nat.zero_add]
    have hv0 : Left md ops listed (r :: List.range' (r + 1) m) := by rw [← hcons]; exact hv
    refine ⟨fun h0 => ?_, fun j hj => ?_⟩
    · have := hv0.head; rw [h0] at this; simp at this
    · have hjr : j = r := by
        rcases hpick [] listed hv hcl j hj with h | h
        · cases h
        · exact h
      subst hjr
      refine wpOp_mono (fun a w ⟨S2, h1, h2⟩ => ?_) (hF a w hc hS)
      exact canon_any hsel (fun a w hF hS => hF w hS) m _ _ _ _ (by simp) h1 (Left.take (pre := []) hv0) h2
  | succ n ih =>
    intro is listed a w hl hlt hS hv hcl hc
    rw [show n + 1 + (m + 1) = (n + (m + 1)) + 1 by omega]
    refine ⟨fun h0 => ?_, fun j hj => ?_⟩
    · cases is with
      | nil => simp at hl
      | cons i is => have := Left.head (i := i) (is := is ++ List.range' r (m + 1)) hv; rw [h0] at this; simp at this
    · obtain ⟨hun, oj, hoj, hall⟩ := mem_ready.1 hj
      have hall2 : ∀ o, ops[j]? = some o → ∀ e ∈ o.after, Region.binds md e = true → listed.getD e.on false = true := fun o ho => by rw [hoj] at ho; cases ho; exact hall
      rcases hpick is listed hv hcl j hj with hm | rfl
      · obtain ⟨pre, post, rfl⟩ := List.append_of_mem hm
        have hv' : Left md ops listed (pre ++ j :: (post ++ List.range' r (m + 1))) := by simpa using hv
        have hap : ∀ p ∈ pre, apartB ops p j = true := by
          intro p hp
          have h1 := (List.pairwise_append.1 hv'.pair).2.2 p hp j List.mem_cons_self
          rcases h1.2 with h2 | h2
          · exfalso
            obtain ⟨e, he, hb, rfl⟩ := (waits_iff hoj).1 h2
            exact unlisted_ne (hv'.un e.on (List.mem_append_left _ hp)) (hall e he hb)
          · exact h2
        obtain ⟨o, v, ho, hd, hrest⟩ := move_ hsel pre a hap hc
        refine hd.wpOp ho hS fun w' hS' => ih _ _ _ _ (by simp at hl ⊢; omega) (fun i hi => hlt i (by rcases List.mem_append.1 hi with h | h; exact List.mem_append_left _ h; exact List.mem_append_right _ (List.mem_cons_of_mem _ h))) hS' ?_ (hcl.set hall2) hrest
        have := hv'.take
        simpa using this
      · exfalso
        cases is with
        | nil => simp at hl
        | cons i is =>
          have h2 := tail_all (by omega) hroot hcl hall2 (j - i) i (hlt i (by simp)) rfl
          exact unlisted_ne (hv.un i (by simp)) h2
theorem canon_mono {G : Act → Prop} (h : ∀ a, F a → G a) : ∀ (is : List Nat) (a : Act), Canon P ops S F is a → Canon P ops S G is a := by
  intro is
  induction is with
  | nil => intro a hc; exact h a hc
  | cons i is ih =>
    intro a hc
    obtain ⟨o, v, h1, h2, h3⟩ := hc
    exact ⟨o, v, h1, h2, ih _ h3⟩
/-- The same, over the operations themselves. -/
theorem wp_region_stage {id : Nat} {a : Act} {w : World} (r m : Nat) (S : World → Prop) {os' os ts : List Oper} {o : Oper} (hm : P.follows .mixedOrders = true) (hos' : ops = os'.toArray) (hsp : splitN r os' = some (os, o :: ts)) (hsz : ops.size = r + (m + 1)) (hn : Region.noSelect ops = true) (hb : canonB .any ops = true) (ht : stageB .any ops r m = true)
    (hS : S w.drew) (hc : CanonL P ops S (fun a => ∀ w, S w → wpOp P ops Q r (fun a w => ∃ S2 : World → Prop, S2 w ∧ CanonL P ops S2 (fun a => ∀ w, S2 w → Q .normal a w) ts a) a w) os a) : (Code.region id ops true).wp P Q a w := by
  obtain ⟨h1, h2⟩ := splitN_eq _ _ _ _ hsp
  have htl : ts.length = m := by
    rw [hos', h1] at hsz
    simp at hsz
    omega
  refine wp_region_any hm ?_
  rw [hsz]
  refine canonS_any (F := fun a => ∀ w, S w → wpOp P ops Q r (Behind P ops Q (List.range' (r + 1) m)) a w) (by omega) ht (Region.noSelect_spec hn) (fun a w hF hS => hF w hS) r (List.range r) _ a _ (by simp) (fun i hi => List.mem_range.1 hi) hS ?_ (Closed.start _ _) ?_
  · have := Left.start hb
    rw [hsz, List.range_eq_range', ← List.range'_append_1, Nat.zero_add] at this
    rw [List.range_eq_range']
    exact this
  · have h := canon_of os 0 a (fun j h => by subst hos'; rw [Nat.zero_add, h1]; simp [List.getElem?_append, h]) hc
    have e : List.range r = List.range' 0 os.length := by rw [h2, List.range_eq_range']
    rw [e]
    refine canon_mono (fun a h w hw => wpOp_mono (fun a w ⟨S2, g1, g2⟩ => ⟨S2, g1, ?_⟩) (h w hw)) _ _ h
    have := canon_of ts (r + 1) a (fun j hj => by
      subst hos'
      rw [h1]
      simp only [List.getElem?_toArray]
      rw [List.getElem?_append_right (by omega), show r + 1 + j - os.length = j + 1 by omega]
      simp [hj]) g2
    rw [htl] at this
    exact this
end
end Go.Proofs.YtddjkbpgaenpgaaGreat
end
