/- LineGoes: what a line answers, wherever it is cut, and what its device has then, is as the document says. No condition. -/
import Derived.Test.YtdhngbfigklaoaaLnP
import Derived.Test.YtdhngbfigklaoaaCanonS
import Derived.Test.YtdhngbfigklaoaaLnG
namespace Go.Proofs.Ytdhngbfigklaoaa
open Go.RowKit Go.Shelf

theorem LnM.weaken {w : World} {l b f x : Nat} {L : LV} (h : LnM w l b f x L) (P : Nat → Prop) (hP : ∀ g, L.P g → P g) : LnM w l b f x { L with P := P } := by
  obtain ⟨cv, h⟩ := h
  exact ⟨cv, h.blk, h.dev, h.lb, h.lf, h.lx, h.zs, fun e => (h.za e).imp id fun q g hg => ⟨(q g hg).1, (q g hg).2.1, (q g hg).2.2.1, hP g (q g hg).2.2.2⟩, ⟨h.ok.cut, h.ok.cs, h.ok.few⟩⟩
theorem A3L.sub {w : World} {a : Option Addr} {cap : Nat} {l : List A3} (h : A3L w (.slice a l.length cap) l) (i : Nat) (hi : i < l.length) (g off : Nat) (ha : a = some ⟨g, off, none⟩) : A3L w (.slice (some ⟨g, off + i * 3, none⟩) 1 (cap - i)) [l[i]] := by
  subst ha
  obtain ⟨h1, a', cap', e, h2, h3, h4⟩ := h
  cases e
  refine ⟨rfl, _, _, rfl, (show 1 ≤ cap - i by omega), by omega, ?_⟩
  rcases h4 with h4 | ⟨g', off', e, h5, h6⟩
  · omega
  · cases e
    refine .inr ⟨g, off + i * 3, rfl, h5, fun j hj => ?_⟩
    have hj : j < 3 := hj
    rw [Nat.add_assoc, h6 (i * 3 + j) (by have := Nat.mul_le_mul_right 3 (show i + 1 ≤ l.length from hi); omega), flat_at a3c a3c_len l i hi j hj]
    simp [flat]
theorem LnM.low2 {w : World} {l b f x : Nat} {L : LV} (h : LnM w l b f x L) : LnM w l b f x { L with P := fun g => L.P g ∧ g < w.heap.size ∧ g ≠ l ∧ g ≠ f ∧ g ≠ x } := by
  obtain ⟨cv, h⟩ := h
  refine ⟨cv, h.blk, h.dev, h.lb, h.lf, h.lx, h.zs, (fun e => ?_), ⟨h.ok.cut, h.ok.cs, h.ok.few⟩⟩
  rcases h.za e with h1 | h1
  · exact .inl h1
  rcases (h.zs e).low with h2 | h2
  · exact .inl h2
  · exact .inr fun g hg => ⟨(h1 g hg).1, (h1 g hg).2.1, (h1 g hg).2.2.1, (h1 g hg).2.2.2, h2 g hg, (h1 g hg).2.2.1, (h1 g hg).1, (h1 g hg).2.1⟩
theorem BothL.start {w0 w1 w2 w3 wr w5 : World} {l b f x r : Nat} {fp : Nat → Prop} {D : DV} {q : Int} {cs : List Int} {v vo : Value}
    (h1 : DevM w1 b f x D) (o1 : w0.heap.size ≤ b ∧ w0.heap.size ≤ f ∧ w0.heap.size ≤ x) (g1 : Frm (fun _ => False) w0 w1)
    (ho : ∀ g, vo.ownBlock = some g → w1.heap.size ≤ g ∧ g < w2.heap.size) (g12 : Frm (fun _ => False) w1 w2)
    (h3 : LnM w3 l b f x { LV.new D q cs (fun g => w2.heap.size ≤ g) with P := fun g => (LV.new D q cs (fun g => w2.heap.size ≤ g)).P g ∧ g < w3.heap.size ∧ g ≠ l ∧ g ≠ f ∧ g ≠ x }) (hl : w2.heap.size ≤ l) (g3 : Frm (fun _ => False) w2 w3)
    (gr : Frm (fun g => vo.ownBlock = some g) w3 wr) (hr : RefM w5 r D fp) (g5 : Frm (fun _ => False) wr w5) (nf : ∀ k, fp k → wr.heap.size ≤ k)
    (hz : Zs w0 v cs) (hok : (LV.new D q cs).ok) :
    BothL w0 (w5.alloc (.cells #[.pointer (some ⟨r, 0, none⟩), .int .i64 q, v, .int .i64 0, .bool false] 35)) l b f x w5.heap.size r fp (LV.new D q cs (fun g => (w2.heap.size ≤ g ∧ g < w3.heap.size ∧ g ≠ l ∧ g ≠ f ∧ g ≠ x) ∨ g < w0.heap.size)) := by
  have a1 := h1.lt
  have a3 := h3.lt
  have z1 := g1.size
  have z12 := g12.size
  have z3 := g3.size
  have zr := gr.size
  have z5 := g5.size
  have g6 : Frm (fun _ => False) w5 (w5.alloc (.cells #[.pointer (some ⟨r, 0, none⟩), .int .i64 q, v, .int .i64 0, .bool false] 35)) := (Frm.refl _ w5).alloc _
  have hlr : LnM wr l b f x { LV.new D q cs (fun g => w2.heap.size ≤ g) with P := fun g => (LV.new D q cs (fun g => w2.heap.size ≤ g)).P g ∧ g < w3.heap.size ∧ g ≠ l ∧ g ≠ f ∧ g ≠ x } :=
    h3.keep gr (fun e => by have := ho _ e; omega) (fun e => by have := ho _ e; omega) (fun e => by have := ho _ e; omega) (fun e => by have := ho _ e; omega) (.inr fun g hg e => by have hg : w2.heap.size ≤ g ∧ g < w3.heap.size ∧ _ := hg; have := ho _ e; omega)
  have hln := (hlr.keepF g5).keepF g6
  have hfr : Frm (fun _ => False) w0 wr := (((g1.trans g12).trans g3).next gr fun k hk e => by have := ho _ e; omega)
  have hfr5 := hfr.trans g5
  have hsz : (w5.alloc (.cells #[.pointer (some ⟨r, 0, none⟩), .int .i64 q, v, .int .i64 0, .bool false] 35)).heap.size = w5.heap.size + 1 := by simp
  refine ⟨hln.weaken _ fun g hg => .inl hg, ⟨v, Blk.alloc w5 _ _, hr.keepF g6, h1.ok, ⟨hok.cut, hok.cs, hok.few⟩, (hz.keepF hfr5).keepF g6, fun e => by have := hr.lt _ e; omega, ?_⟩, ⟨by omega, by omega, by omega, by omega⟩, ⟨fun e => by have := nf _ e; omega, fun e => by have := nf _ e; omega, fun e => by have := nf _ e; omega, fun e => by have := nf _ e; omega⟩, fun g hg => ?_, ⟨by omega, o1.2.1, o1.2.2⟩, ⟨by omega, fun k hk => by have := nf k hk; omega⟩, hfr5.trans g6⟩
  · rcases hz.low with h | h
    · exact .inl h
    · exact .inr fun g hg => ⟨fun e => by have := nf _ e; have := h g hg; omega, by have := h g hg; omega, .inr (h g hg)⟩
  · have hg : (w2.heap.size ≤ g ∧ g < w3.heap.size ∧ g ≠ l ∧ g ≠ f ∧ g ≠ x) ∨ g < w0.heap.size := hg
    have hng : ¬ fp g := fun e => by have := nf _ e; rcases hg with h | h <;> omega
    rcases hg with h | h
    · exact ⟨⟨h.2.2.1, h.2.2.2.1, h.2.2.2.2⟩, by omega, hng, by omega⟩
    · exact ⟨⟨by omega, by omega, by omega⟩, by omega, hng, by omega⟩
set_option maxRecDepth 100000 in
set_option maxHeartbeats 16000000 in
theorem lineGoes_any (q : Int) (v : Value) (cs : List Int) (v2 : Value) (A : List A3) (w : World) (hq : Z64 q) (hz : Zs w v cs) (hzz : ∀ z ∈ cs, Z64 z) (hA : A3L w v2 A) :
    Calls Try.prog 3 #[.int .i64 q, v, v2] w fun e w' => e = .returned (.bool true) ∧ Frm (fun _ => False) w w' := by
  obtain ⟨a, cap, rfl, hc1, hc2⟩ := hz.slice
  unfold maxLen at hc2
  have HF := few12_any v2 A w hA
  have HWK := Lib.hid (fun W => lnWorks_any W)
  cases hfew : few3 A with
  | false =>
    rw [hfew] at HF
    have HF := Lib.hid HF
    clear hfew hz hzz hA hq
    go_enter Try.func3, Try.ntmps3
    go_wp2_with fail
    refine HF.out.mono ?_
    rintro e w1 ⟨rfl, rfl⟩
    go_wp2_with fail
    refine (HWK.out _).mono ?_
    rintro e w1 ⟨rfl, g1⟩
    go_wp2_with fail
    go_ret
    exact ⟨rfl, g1⟩
  | true =>
    have hlen := few3_len hfew
    rw [hfew] at HF
    have HF := Lib.hid HF
    clear hfew
    by_cases h10 : cs.length ≤ 10
    · have h10i : ¬ (10 : Int) < (cs.length : Int) := by omega
      have hcl : cs.length ≤ 1000000 := by omega
      have HV := Lib.hid (And.intro hz (And.intro hzz (And.intro hcl hq)))
      have HA := Lib.hid hA
      have HN := Lib.hid (new256 w)
      clear hz hzz hA hcl hq
      go_enter Try.func3, Try.ntmps3
      go_wp2_with fail
      refine HF.out.mono ?_
      rintro e w1 ⟨rfl, rfl⟩
      go_wp2_with fail
      refine HN.out.mono ?_
      rintro e w1 ⟨_, rfl, b, f, x, rfl, hd, hb, hf, hx, g1⟩
      obtain ⟨vo, w2, hrun, hrow, hg, ho⟩ := append_zs w1 (.slice none 0 0) _ [] cs (Row.nil_ _ _) (HV.out.1.keepF g1) (by simp; omega)
      have g12 : Frm (fun _ => False) w1 w2 := (Frm.refl _ w1).grown hg fun k hk e => by cases e
      have ho2 : ∀ g, vo.ownBlock = some g → w1.heap.size ≤ g := fun g hg => (ho g hg).resolve_left (fun h => by cases h)
      have Hrun := Lib.hid hrun
      have H1 := Lib.hid (And.intro hd (And.intro (And.intro hb (And.intro hf hx)) g1))
      rw [List.nil_append] at hrow
      have H2 := Lib.hid (And.intro hrow (And.intro g12 ho2))
      obtain ⟨ao, capo, rfl, ho3, ho4⟩ := hrow.zs.slice
      unfold maxLen at ho4
      have HL := Lib.hid (lnew_any b f x _ q _ cs w2 (hd.keepF g12) HV.out.2.2.2 hrow.zs HV.out.2.1 HV.out.2.2.1 (fun g => w2.heap.size ≤ g) (fun _ h => h))
      clear hd hb hf hx g1 HN HF hrun hrow hg ho g12 ho2
      go_wp2_with (first | (at_builtin; refine Lib.wpList_append_run _ rfl _ _ _ _ rfl _ _ rfl rfl _ _ Hrun.out ?_) | fail)
      refine HL.out.mono ?_
      rintro e w3 ⟨_, rfl, l, rfl, h3, hl, g3⟩
      have HD := Lib.hid (ldev_any l b f x _ w3 h3)
      have H3 := Lib.hid (And.intro h3.low2 (And.intro hl g3))
      clear h3 hl g3 HL
      have hq1 := dev_nil2
      have hq2 := ln_nil2
      have hqd := fun (W : World) (a : Addr) => neq_ptr 26 W _ _ _ (dev_same W a)
      go_wp2_with fail
      refine HD.out.mono ?_
      rintro e ww ⟨rfl, rfl⟩
      go_wp2_with fail
      clear hqd hq1 hq2 HD
      -- own is overwritten
      go_loopw [10] (fun i wr => ∃ k : Nat, k ≤ cs.length ∧ i = .int .i64 (k : Nat) ∧ (∃ xs, Row wr 1 (.slice ao cs.length capo) cs.length xs) ∧ Frm (fun g => Value.ownBlock (.slice ao cs.length capo) = some g) w3 wr) (fun i _ => cs.length - (intOf i).toNat)
      case atStart => exact ⟨0, Nat.zero_le _, rfl, ⟨_, Row.keep H2.out.1 H3.out.2.2 (fun _ _ h => h)⟩, Frm.refl _ _⟩
      case round =>
        obtain ⟨i, hi, rfl, ⟨xs, hrow⟩, gr⟩ := hrel
        by_cases hlt : i < cs.length
        · have hki : (i : Int) < (cs.length : Int) := by omega
          obtain ⟨go, rfl⟩ : ∃ go, ao = some ⟨go, 0, none⟩ := by
            rcases hrow.2 with ⟨e, h0⟩ | ⟨g', cap', e, _⟩
            · omega
            · exact ⟨g', by cases e; rfl⟩
          have hfz := hrow.freeAt i hlt
          have hcl : (wr.cell? ⟨go, 0 + i, none⟩).isSome = true := by
            rcases hrow.2 with ⟨e, h0⟩ | ⟨g', cap', e, h1, _, _, _, h5⟩
            · cases e
            · cases e
              have := (h5 i (by omega)).1
              rw [Nat.zero_add]
              exact this
          rw [Nat.zero_add] at hfz hcl
          obtain ⟨old, hold⟩ := Option.isSome_iff_exists.1 hcl
          have hset := hrow.set1 i hlt (.int .i64 64)
          rw [Nat.zero_add] at hset
          have HS := Lib.hid (And.intro hset (gr.setCell (p := ⟨go, i, none⟩) (fun _ => rfl) (.int .i64 64)))
          clear hcl hset gr hrow
          go_wp2_with fail
          go_roundw
          case rel => exact ⟨i + 1, by omega, by go_num, ⟨_, HS.out.1⟩, HS.out.2⟩
          case measure => simp [intOf]; omega
        · obtain rfl : i = cs.length := by omega
          have GR := Lib.hid gr
          clear gr hrow
          go_wp2_with fail
          have HN5 := Lib.hid (rnew_any 256 wr (by decide))
          refine HN5.out.mono ?_
          rintro e w5 ⟨_, rfl, r, fp, rfl, hr5, g5, nf5⟩
          have hB := BothL.start H1.out.1 H1.out.2.1 H1.out.2.2 (fun g hg => ⟨H2.out.2.2 g hg, Row.blk H2.out.1 g hg⟩) H2.out.2.1 H3.out.1 H3.out.2.1 H3.out.2.2 GR.out hr5 g5 nf5 HV.out.1 ⟨HV.out.2.2.2, HV.out.2.1, HV.out.2.2.1⟩
          have HB := Lib.hid hB
          obtain ⟨P, hP⟩ : ∃ P, (fun g => (w2.heap.size ≤ g ∧ g < w3.heap.size ∧ g ≠ l ∧ g ≠ f ∧ g ≠ x) ∨ g < w.heap.size) = P := ⟨_, rfl⟩
          rw [hP] at HB
          clear hP hB hr5 g5 nf5 HN5 GR H1 H2 H3 Hrun
          obtain ⟨aA, capA, rfl, hA1, hA2⟩ := HA.out.slice
          unfold maxLen at hA2
          go_wp2_with fail
          obtain ⟨p, hp⟩ : ∃ p, w5.heap.size = p := ⟨_, rfl⟩
          rw [hp] at HB ⊢
          obtain ⟨w6, hw6⟩ : ∃ w6, w5.alloc (.cells #[.pointer (some ⟨r, 0, none⟩), .int .i64 q, .slice a cs.length cap, .int .i64 0, .bool false] 35) = w6 := ⟨_, rfl⟩
          rw [hw6] at HB ⊢
          clear hw6 hp
          go_loopw [12] (fun i wr => ∃ j : Nat, j ≤ A.length ∧ i = .int .i64 (j : Nat) ∧ ∃ L fp, BothL w wr l b f x p r fp L ∧ L.acts ≤ j) (fun i _ => A.length - (intOf i).toNat)
          case atStart => exact ⟨0, Nat.zero_le _, rfl, _, _, HB.out, Nat.le_refl _⟩
          case round =>
            obtain ⟨j, hj, rfl, L, fpj, hBj, hLj⟩ := hrel
            clear HB
            by_cases hlt : j < A.length
            · obtain ⟨g, off, rfl, hgg, c0, c1, c2⟩ := A3L.elem (show A3L wr (.slice _ A.length _) A from HA.out.keepF hBj.frm) j hlt
              have hji : (j : Int) < (A.length : Int) := by omega
              have hAj := HA.out.sub j hlt g off rfl
              obtain ⟨y, hy⟩ : ∃ y, A[j] = y := ⟨_, rfl⟩
              rw [hy] at c0 c1 c2 hAj
              have hLa : L.acts ≤ 1000000 := by omega
              have hP1 := one_P L y
              have HO := Lib.hid (fun W (gW : Frm (fun _ => False) wr W) => one12_any l b f x p r fpj L y w W (hBj.keepF gW) hLa)
              have HBJ := Lib.hid (And.intro hAj hLj)
              have HP1 := Lib.hid hP1
              have hck : ¬ capA = j := by omega
              have a38 := Try.isAgg38
              have z38 := Try.sizeOf38
              clear hBj hLj hy hAj hLa hP1
              go_upto_region 17 with fail
              refine wp_region_stage 6 33 (fun w' => w'.cell? ⟨g, off + j * 3, none⟩ = some (.int .u8 (y.k : Nat)) ∧ w'.cell? ⟨g, off + j * 3 + 1, none⟩ = some (.int .i64 y.q) ∧ w'.cell? ⟨g, off + j * 3 + 2, none⟩ = some (.string (bs y.s)) ∧ Frm (fun _ => False) wr w') (by kernel_rfl) rfl rfl (by kernel_rfl) (by kernel_rfl) (by kernel_rfl) (by kernel_rfl) (⟨c0, c1, c2, (Frm.refl _ wr).drew⟩) ?_
              repeat' first
                | (refine CanonL.skip (by rfl) ?_; (try simp only [Act.put, List.setIfInBounds_toArray, List.set_cons_zero, List.set_cons_succ]))
                | (refine CanonL.val (v := ?_) (by rfl) ?_ ?_; rotate_left 1; (focus (intro w hSw; (try dsimp only at hSw); go_simp; (try (with_reducible rfl)); done)); (try simp only [Act.put, List.setIfInBounds_toArray, List.set_cons_zero, List.set_cons_succ]))
              refine CanonL.done ?_
              intro w9 hS9
              obtain ⟨_, _, _, g9⟩ := hS9
              refine wpOp_callD rfl rfl (by rfl) (by go_simp) ((HO.out w9 g9).mono ?_)
              rintro e wb ⟨rfl, fp1, hb⟩
              refine ⟨_, rfl, ?_⟩
              simp only [Act.put, List.setIfInBounds_toArray, List.set_cons_zero, List.set_cons_succ]
              obtain ⟨L1, hL1⟩ : ∃ L1, L.one y = L1 := ⟨_, rfl⟩
              rw [hL1] at hb HP1
              have e4 := hb.rl.c4
              have e3 := hb.rl.c3
              have e0 := hb.rl.c0
              have hAb : A3L wb (.slice (some ⟨g, off + j * 3, none⟩) 1 (capA - j)) [y] := HBJ.out.1.keepF hb.frm
              obtain ⟨dn, hdn⟩ : ∃ dn, L1.down = dn := ⟨_, rfl⟩
              obtain ⟨ac, hac⟩ : ∃ ac, L1.acts = ac := ⟨_, rfl⟩
              have HDN : ∀ w', (w'.cell? ⟨p, 4, none⟩ = some (.bool dn) ∧ w'.cell? ⟨p, 3, none⟩ = some (.int .i64 (ac : Nat)) ∧ w'.cell? ⟨p, 0, none⟩ = some (.pointer (some ⟨r, 0, none⟩)) ∧ Frm (fun _ => False) wb w') → Calls Try.prog 14 #[.pointer (some ⟨l, 0, none⟩)] w' fun e w'' => e = .returned (.bool dn) ∧ Frm (fun _ => False) w' w'' := fun w' hw => (ldown_any l b f x L1 w' (hb.ln.keepF hw.2.2.2)).mono fun e w'' ⟨h1, h2⟩ => ⟨by rw [h1, hdn], by rw [← h2]; exact Frm.refl _ _⟩
              have HAC : ∀ w', (w'.cell? ⟨p, 4, none⟩ = some (.bool dn) ∧ w'.cell? ⟨p, 3, none⟩ = some (.int .i64 (ac : Nat)) ∧ w'.cell? ⟨p, 0, none⟩ = some (.pointer (some ⟨r, 0, none⟩)) ∧ Frm (fun _ => False) wb w') → Calls Try.prog 15 #[.pointer (some ⟨l, 0, none⟩)] w' fun e w'' => e = .returned (.int .i64 (ac : Nat)) ∧ Frm (fun _ => False) w' w'' := fun w' hw => (lacts_any l b f x L1 w' (hb.ln.keepF hw.2.2.2)).mono fun e w'' ⟨h1, h2⟩ => ⟨by rw [h1, hac], by rw [← h2]; exact Frm.refl _ _⟩
              have HAL : ∀ w', (w'.cell? ⟨p, 4, none⟩ = some (.bool dn) ∧ w'.cell? ⟨p, 3, none⟩ = some (.int .i64 (ac : Nat)) ∧ w'.cell? ⟨p, 0, none⟩ = some (.pointer (some ⟨r, 0, none⟩)) ∧ Frm (fun _ => False) wb w') → Calls Try.prog 16 #[.pointer (some ⟨b, 0, none⟩), .pointer (some ⟨r, 0, none⟩), .slice (some ⟨g, off + j * 3, none⟩) 1 (capA - j)] w' fun e w'' => e = .returned (.bool true) ∧ Frm (fun _ => False) w' w'' := fun w' hw => alike12_any b f x r L1.D fp1 _ [y] w' (hb.ln.keepF hw.2.2.2).dev (hb.rl.keepF hw.2.2.2).ref (hAb.keepF hw.2.2.2)
              rw [hdn] at e4
              rw [hac] at e3 HP1
              have HBB := Lib.hid (And.intro hb hac)
              have h1w : (j : Int) + 1 ≤ (capA : Int) := by omega
              have h2w : ¬ (capA : Int) < (j : Int) + 1 := by omega
              have h3w : 0 ≤ (j : Int) + 1 := by omega
              have h4w : j + 1 - j = 1 := by omega
              have h5w : j ≤ j + 1 := by omega
              have h6w : ((j : Int) + 1).toNat = j + 1 := by omega
              have hjw : IntKind.i64.wrap ((j : Int) + 1) = (j : Int) + 1 := IntWalk.i64_in _ (by omega)
              clear hL1 hdn hac hb hAb
              refine ⟨fun w' => w'.cell? ⟨p, 4, none⟩ = some (.bool dn) ∧ w'.cell? ⟨p, 3, none⟩ = some (.int .i64 (ac : Nat)) ∧ w'.cell? ⟨p, 0, none⟩ = some (.pointer (some ⟨r, 0, none⟩)) ∧ Frm (fun _ => False) wb w', ⟨e4, e3, e0, Frm.refl _ wb⟩, ?_⟩
              repeat' first
                | (refine CanonL.skip (by rfl) ?_; (try simp only [Act.put, List.setIfInBounds_toArray, List.set_cons_zero, List.set_cons_succ]))
                | (refine CanonL.callS (by rfl) (by rfl) ?_ HDN ?_ ?_; (focus (intro w; go_simp; (try (with_reducible rfl)); done)); (focus (rintro w ww hs gg; exact ⟨dFrm_cell gg hs.1, dFrm_cell gg hs.2.1, dFrm_cell gg hs.2.2.1, hs.2.2.2.trans gg⟩)); (try simp only [Act.put, List.setIfInBounds_toArray, List.set_cons_zero, List.set_cons_succ]))
                | (refine CanonL.callS (by rfl) (by rfl) ?_ HAC ?_ ?_; (focus (intro w; go_simp; (try (with_reducible rfl)); done)); (focus (rintro w ww hs gg; exact ⟨dFrm_cell gg hs.1, dFrm_cell gg hs.2.1, dFrm_cell gg hs.2.2.1, hs.2.2.2.trans gg⟩)); (try simp only [Act.put, List.setIfInBounds_toArray, List.set_cons_zero, List.set_cons_succ]))
                | (refine CanonL.callS (by rfl) (by rfl) ?_ HAL ?_ ?_; (focus (intro w; go_simp; (try (with_reducible rfl)); done)); (focus (rintro w ww hs gg; exact ⟨dFrm_cell gg hs.1, dFrm_cell gg hs.2.1, dFrm_cell gg hs.2.2.1, hs.2.2.2.trans gg⟩)); (try simp only [Act.put, List.setIfInBounds_toArray, List.set_cons_zero, List.set_cons_succ]))
                | (refine CanonL.val (v := ?_) (by rfl) ?_ ?_; rotate_left 1; (focus (intro w hSw; (try dsimp only at hSw); go_simp; (try (with_reducible rfl)); done)); (try simp only [Act.put, List.setIfInBounds_toArray, List.set_cons_zero, List.set_cons_succ]))
              refine CanonL.done ?_
              intro w9 hS9
              have HB9 := Lib.hid (HBB.out.1.keepF hS9.2.2.2)
              clear hS9 HDN HAC HAL e4 e3 e0 h1w h2w h3w h4w h5w h6w hjw hck
              go_wp2_with fail
              go_roundw
              case rel => exact ⟨j + 1, by omega, by go_num, L1, fp1, HB9.out, by rw [HBB.out.2]; have := HP1.out.2; have := HBJ.out.2; omega⟩
              case measure => simp [intOf]; omega
            · obtain rfl : j = A.length := by omega
              have e0 := hBj.rl.c0
              have HAL := Lib.hid (alike12_any b f x r L.D fpj _ A wr hBj.ln.dev hBj.rl.ref (HA.out.keepF hBj.frm))
              have HFR := Lib.hid hBj.frm
              clear hBj hLj
              go_wp2_with fail
              refine HAL.out.mono ?_
              rintro e w8 ⟨rfl, g8⟩
              have G8 := Lib.hid (HFR.out.trans g8)
              clear g8 e0 HAL
              go_wp2_with fail
              refine (HWK.out _).mono ?_
              rintro e w9 ⟨rfl, g9⟩
              have G9 := Lib.hid (G8.out.trans g9)
              clear g9
              go_wp2_with fail
              go_ret
              exact ⟨rfl, G9.out⟩
    · have h10i : (10 : Int) < (cs.length : Int) := by omega
      clear h10 hz hzz hA hq
      go_enter Try.func3, Try.ntmps3
      go_wp2_with fail
      refine HF.out.mono ?_
      rintro e w1 ⟨rfl, rfl⟩
      go_wp2_with fail
      refine (HWK.out _).mono ?_
      rintro e w1 ⟨rfl, g1⟩
      go_wp2_with fail
      go_ret
      exact ⟨rfl, g1⟩
end Go.Proofs.Ytdhngbfigklaoaa

