/- What the document's At leaves. No condition. -/
import Derived.Test.YtiokabhidjafeaaDoorRkP
namespace Go.Proofs.YtiokabhidjafeaaDoor
open Go.RowKit Go.Shelf

theorem Row.sl2 {w : World} {size n : Nat} {v : Value} {xs : List Value} (h : Row w size v n xs) : Sl w size v n xs := Sl.ofRow h
theorem dFrm_cellR {w w' : World} {a : Addr} {v : Option Value} (h : Frm (fun _ => False) w w') (c : w.cell? a = v) (hv : v.isSome = true := by rfl) : w'.cell? a = v := by
  cases v with
  | none => cases hv
  | some v => exact h.cellF c
theorem take_filt {P : List (GrpI × Value)} (f : GrpI × Value → Bool) (k : Nat) (h : k < P.length) : (P.take (k + 1)).filter f = (P.take k).filter f ++ (if f P[k] then [P[k]] else []) := by
  rw [List.take_add_one, List.getElem?_eq_getElem h, List.filter_append]
  congr 1
  cases hf : f P[k] with
  | true => simp [hf]
  | false => simp [hf]
theorem take_all {P : List (GrpI × Value)} (f : GrpI × Value → Bool) (k : Nat) (h : k = P.length) : (P.take k).filter f = P.filter f := by
  subst h
  rw [List.take_length]
theorem RatI.slice {w1 W : World} {cf : List UInt8 → DotI → List UInt8} {nm : List UInt8} {P D F : List (GrpI × Value)} {u : Value} (h : RatI w1 cf nm P D F u W) : ∃ a n c, u = .slice a n c ∧ D.length + F.length = n := by
  obtain ⟨a, c, e, _, _⟩ := Row.slice h.row
  exact ⟨a, _, c, e, by rw [List.length_append, seesF_len]; simp [seesD]⟩
theorem seeF_g (cf : List UInt8 → DotI → List UInt8) (nm : List UInt8) (k : Nat) (g : GrpI) : (seeF cf nm k g).g = g := by
  unfold seeF
  split
  · rfl
  · split <;> rfl
theorem seesF_mem (cf : List UInt8 → DotI → List UInt8) (nm : List UInt8) : ∀ (xs : List (GrpI × Value)) (k : Nat) (z : SeenI × Value), z ∈ seesF cf nm k xs → ∃ x ∈ xs, z.2 = x.2 ∧ z.1.g = x.1
  | [], _, z, h => by cases h
  | x :: xs, k, z, h => by
    rw [seesF, List.mem_cons] at h
    rcases h with rfl | h
    · exact ⟨x, List.mem_cons_self, rfl, seeF_g _ _ _ _⟩
    · obtain ⟨y, hy, h2⟩ := seesF_mem cf nm xs (k + 1) z h
      exact ⟨y, List.mem_cons_of_mem _ hy, h2⟩
theorem sees_mem {cf : List UInt8 → DotI → List UInt8} {nm : List UInt8} {D F : List (GrpI × Value)} {k : Nat} (z : SeenI × Value) (h : z ∈ seesD nm D ++ seesF cf nm k F) : ∃ x, (x ∈ D ∨ x ∈ F) ∧ z.2 = x.2 ∧ z.1.g = x.1 := by
  rcases List.mem_append.1 h with h | h
  · obtain ⟨x, hx, rfl⟩ := List.mem_map.1 h
    exact ⟨x, .inl hx, rfl, rfl⟩
  · obtain ⟨x, hx, h2⟩ := seesF_mem cf nm F k z h
    exact ⟨x, .inr hx, h2⟩
theorem seesD_fst (nm : List UInt8) (xs : List (GrpI × Value)) : (seesD nm xs).map Prod.fst = (xs.map Prod.fst).map (seeD nm) := by
  unfold seesD
  rw [List.map_map, List.map_map]
  rfl
theorem List.map_filt {P : List (GrpI × Value)} (f : GrpI → Bool) : (P.filter (fun x => f x.1)).map Prod.fst = (P.map Prod.fst).filter f := by
  induction P with
  | nil => rfl
  | cons x P ih =>
    rw [List.filter_cons, List.map_cons, List.filter_cons]
    cases f x.1 with
    | true => simp [ih]
    | false => simpa using ih
set_option maxRecDepth 100000 in
set_option maxHeartbeats 8000000 in
theorem rat_any (f : Nat → Nat) (nm : List UInt8) (v : Value) (l : List SibI) (q : Bool) (w : World) (h : SL w v l) (hs : ∀ x ∈ l, x.s.length ≤ 200) (hb : l.length ≤ 1000) (hn : nm.length ≤ 1000) :
    Calls Tryd.prog 15 #[rg f v, .string (bs nm), .bool q] w (RatTo (seenR cfR nm q l) w) := by
  obtain ⟨a0, c0, rfl, _, _⟩ := h.slice
  have a3 := Tryd.isAgg37
  have z3 := Tryd.sizeOf37
  have a4 := Tryd.isAgg44
  have z4 := Tryd.sizeOf44
  have a5 := Tryd.isAgg54
  have z5 := Tryd.sizeOf54
  have a6 := Tryd.isAgg78
  have z6 := Tryd.sizeOf78
  have a7 := Tryd.isAgg42
  have z7 := Tryd.sizeOf42
  obtain ⟨wb, hwb⟩ : ∃ wb, w.alloc (.cells (rgc f (.slice a0 l.length c0)) 37) = wb := ⟨_, rfl⟩
  have g0 : Frm (fun _ => False) w wb := by rw [← hwb]; exact (Frm.refl _ w).alloc _
  have hB : Blk wb w.heap.size 37 (rgc f (.slice a0 l.length c0)) := by rw [← hwb]; exact Blk.alloc _ _ _
  have lR := load_rreg hB
  have HG := Lib.hid (rgroups_any f (.slice a0 l.length c0) l q wb (h.keepF g0) hs hb)
  have hok := gok_grps (p := sameR q) l hs
  have hne := grps_ne (p := sameR q) l
  have HOK := Lib.hid (And.intro hok (And.intro hne (And.intro g0 (And.intro hb hn))))
  clear h hs hB g0 hok hne hb hn
  go_enter Tryd.func15, Tryd.ntmps15
  go_wp2_with (first | ((with_reducible refine wpl_load rfl _ rfl ?_ lR ?_); (focus rfl)) | fail)
  refine HG.out.mono ?_
  rintro e w1 ⟨u1, P, rfl, hG, hP, g1⟩
  obtain ⟨aP, cP, e1, hp1, hp2⟩ := Row.slice hG.row
  subst e1
  unfold maxLen at hp2
  obtain ⟨hok, hne, g0, hb, hn⟩ := HOK.out
  rw [← hP] at hok hne
  have hPl : P.length ≤ 1000 := by have := hok.len; rw [List.length_map] at this; omega
  have hPm : ∀ i (h : i < P.length), P[i].1.d ≠ [] ∧ P[i].1.s.length ≤ 200 := fun i h => by
    have hm : P[i].1 ∈ P.map Prod.fst := List.mem_map.2 ⟨P[i], List.getElem_mem h, rfl⟩
    exact ⟨hne _ hm, hok.s _ hm⟩
  have HP := Lib.hid (And.intro hG.row.sl2 (And.intro (fun i (h : i < P.length) => (hG.dots i h).dl) (And.intro hPm (And.intro hP (g0.trans g1)))))
  have hN := Lib.hid hn
  clear hG hP g1 hok hne g0 hb hn hPm HG HOK lR hwb
  go_wp2_with fail
  go_loopw [8, 9] (fun s8 i wr => ∃ k : Nat, k ≤ P.length ∧ i = .int .i64 (k : Nat) ∧ RatI w1 cfR nm P ((P.take k).filter (fun x => isDir x.1.s)) [] s8 wr) (fun _ i _ => P.length - (intOf i).toNat)
  case atStart => exact ⟨0, Nat.zero_le _, rfl, RatI.start _ _ _ _⟩
  case round =>
    obtain ⟨k, hk, rfl, hI⟩ := hrel
    obtain ⟨a8, n8, c8, rfl, hn8⟩ := RatI.slice hI
    have HN8 := Lib.hid hn8
    clear hn8
    have hIl : (seesD nm ((P.take k).filter (fun x => isDir x.1.s)) ++ seesF cfR nm ((P.take k).filter (fun x => isDir x.1.s)).length []).length ≤ 1000 := by
      rw [List.length_append, seesF_len]
      have h1 := List.length_filter_le (fun x : GrpI × Value => isDir x.1.s) (P.take k)
      rw [List.length_take] at h1
      simp only [seesD, List.length_map, List.length_nil]
      omega
    by_cases hlt : k < P.length
    · obtain ⟨g, off, e1, _, hc⟩ := Sl.elem grc grc_len HP.out.1 k hlt (by omega)
      cases e1
      have c0 := dFrm_cellR hI.frm (hc 0 (by omega))
      have c1 := dFrm_cellR hI.frm (hc 1 (by omega))
      have hdl := HP.out.2.1 k hlt
      have hmm := List.getElem_mem hlt
      have htf := take_filt (fun x : GrpI × Value => isDir x.1.s) k hlt
      obtain ⟨y, hy⟩ : ∃ y, P[k] = y := ⟨_, rfl⟩
      rw [hy] at c0 c1 hdl hmm htf
      obtain ⟨⟨s, d⟩, vd⟩ := y
      dsimp only at hdl htf
      obtain ⟨ad, cd, hvd, _, _⟩ := DL.slice hdl
      subst hvd
      have c0 : wr.cell? ⟨g, off + k * 2, none⟩ = some (.string (bs s)) := c0
      have c1 : wr.cell? ⟨g, off + k * 2 + 1, none⟩ = some (.slice ad d.length cd) := by rw [Nat.add_assoc]; exact c1
      have hki : (k : Int) < (P.length : Int) := by omega
      have hbq := dir_beq s
      cases hdir : isDir s with
      | true =>
        rw [hdir] at hbq htf
        obtain ⟨v', W', hrun, hI2⟩ := hI.add (D' := (P.take (k + 1)).filter (fun x => isDir x.1.s)) (F' := []) (y := (seeD nm ⟨s, d⟩, .slice ad d.length cd)) (Frm.refl _ wr) rfl (by rw [htf, if_pos rfl, seesD_add]; simp [seesF]) (fun x hx => List.mem_of_mem_take (List.mem_filter.1 hx).1) (fun x hx => by cases hx) (by omega)
        have Hrun := Lib.hid hrun
        have HI2 := Lib.hid hI2
        obtain ⟨a9, n9, c9, rfl, _⟩ := RatI.slice hI2
        clear hrun hI2 hI hdl hmm htf hy hc hIl hdir
        go_wp2_with (first | (at_builtin; refine Lib.wpList_append_run _ rfl _ _ _ _ rfl _ _ rfl rfl _ _ Hrun.out ?_) | fail)
        go_roundw
        case rel => exact ⟨k + 1, by omega, by go_num, HI2.out⟩
        case measure => simp [intOf]; omega
      | false =>
        rw [hdir] at hbq htf
        simp only [Bool.false_eq_true, if_false, List.append_nil] at htf
        rw [← htf] at hI
        have HI2 := Lib.hid hI
        clear hI hdl hmm htf hy hc hIl hdir
        go_wp2_with fail
        go_roundw
        case rel => exact ⟨k + 1, by omega, by go_num, HI2.out⟩
        case measure => simp [intOf]; omega
    · obtain rfl : k = P.length := by omega
      have hI0 := hI
      rw [take_all _ _ rfl] at hI0
      obtain ⟨D, hD⟩ : ∃ D, P.filter (fun x => isDir x.1.s) = D := ⟨_, rfl⟩
      rw [hD] at hI0
      have HI0 := Lib.hid (And.intro hI0 hD)
      have hDl : D.length ≤ 1000 := by rw [← hD]; exact Nat.le_trans (List.length_filter_le _ _) hPl
      clear hI hI0 hD hIl
      go_wp2_with fail
      go_loopw [8, 10] (fun s8 i wr => ∃ k : Nat, k ≤ P.length ∧ i = .int .i64 (k : Nat) ∧ RatI w1 cfR nm P D ((P.take k).filter (fun x => !isDir x.1.s)) s8 wr) (fun _ i _ => P.length - (intOf i).toNat)
      case atStart => exact ⟨0, Nat.zero_le _, rfl, HI0.out.1⟩
      case round =>
        clear HN8
        obtain ⟨k, hk, rfl, hI⟩ := hrel
        obtain ⟨a8, n8, c8, rfl, hn8⟩ := RatI.slice hI
        have hFl := List.length_filter_le (fun x : GrpI × Value => !isDir x.1.s) (P.take k)
        rw [List.length_take] at hFl
        have hn8l : n8 ≤ 2000 := by omega
        by_cases hlt : k < P.length
        · obtain ⟨g, off, e1, _, hc⟩ := Sl.elem grc grc_len HP.out.1 k hlt (by omega)
          cases e1
          have c0 := dFrm_cellR hI.frm (hc 0 (by omega))
          have c1 := dFrm_cellR hI.frm (hc 1 (by omega))
          have hdl := HP.out.2.1 k hlt
          have hmm := List.getElem_mem hlt
          have htf := take_filt (fun x : GrpI × Value => !isDir x.1.s) k hlt
          have hne := (HP.out.2.2.1 k hlt).1
          obtain ⟨y, hy⟩ : ∃ y, P[k] = y := ⟨_, rfl⟩
          rw [hy] at c0 c1 hdl hmm htf hne
          obtain ⟨⟨s, d⟩, vd⟩ := y
          dsimp only at hdl htf hne
          obtain ⟨ad, cd, hvd, _, _⟩ := DL.slice hdl
          subst hvd
          have c0 : wr.cell? ⟨g, off + k * 2, none⟩ = some (.string (bs s)) := c0
          have c1 : wr.cell? ⟨g, off + k * 2 + 1, none⟩ = some (.slice ad d.length cd) := by rw [Nat.add_assoc]; exact c1
          have hki : (k : Int) < (P.length : Int) := by omega
          have hbq := dir_beq s
          cases hdir : isDir s with
          | true =>
            rw [hdir] at hbq htf
            simp only [Bool.not_true, Bool.false_eq_true, if_false, List.append_nil] at htf
            rw [← htf] at hI
            have HI2 := Lib.hid hI
            clear hI hdl hmm htf hy hc hdir hne hn8 hFl
            go_wp2_with fail
            go_roundw
            case rel => exact ⟨k + 1, by omega, by go_num, HI2.out⟩
            case measure => simp [intOf]; omega
          | false =>
            rw [hdir] at hbq htf
            simp only [Bool.not_false, if_true] at htf
            have gB : Frm (fun _ => False) wr (wr.alloc (.cells #[.string (bs nm), .bool false, .bool false, .string (bs s), .slice ad d.length cd] 54)) := (Frm.refl _ wr).alloc _
            have bB := Blk.alloc wr 54 #[.string (bs nm), .bool false, .bool false, .string (bs s), .slice ad d.length cd]
            have hFm : ∀ x ∈ (P.take (k + 1)).filter (fun x => !isDir x.1.s), x ∈ P := fun x hx => List.mem_of_mem_take (List.mem_filter.1 hx).1
            have hll : (seesD nm D ++ seesF cfR nm D.length ((P.take k).filter (fun x => !isDir x.1.s))).length ≤ 100000 := by rw [List.length_append, seesF_len]; simp only [seesD, List.length_map]; omega
            by_cases h8 : n8 = 0
            · subst h8
              obtain ⟨v', W', hrun, hI2⟩ := hI.add (D' := D) (F' := (P.take (k + 1)).filter (fun x => !isDir x.1.s)) (y := ((⟨nm, false, false, ⟨s, d⟩⟩ : SeenI), .slice ad d.length cd)) gB rfl (by rw [htf, seesF_add, show D.length + ((P.take k).filter (fun x => !isDir x.1.s)).length = 0 by omega]; simp [seeF]) hI.d hFm hll
              rw [World.size_alloc] at hrun
              have Hrun := Lib.hid hrun
              have HI2 := Lib.hid hI2
              obtain ⟨a9, n9, c9, rfl, _⟩ := RatI.slice hI2
              clear hrun hI2 hI hdl hmm htf hy hc hdir hne hn8 hFl gB bB hFm hll
              go_wp2_with (first | (at_builtin; refine Lib.wpList_append_run _ rfl _ _ _ _ rfl _ _ rfl rfl _ _ Hrun.out ?_) | fail)
              go_roundw
              case rel => exact ⟨k + 1, by omega, by go_num, HI2.out⟩
              case measure => simp [intOf]; omega
            · have hd8 : decide (0 < n8) = true := decide_eq_true (by omega)
              have hd9 : decide (0 < (n8 : Int)) = true := decide_eq_true (by omega)
              have hpos : 0 < (n8 : Int) := by omega
              obtain ⟨d0, dr, hdd⟩ := List.exists_cons_of_ne_nil hne
              obtain ⟨gd, od, ha5, z0, z1⟩ := DL.load hdl 0 (by rw [hdd]; simp)
              subst ha5
              simp only [hdd, List.getElem_cons_zero] at z0 z1
              have z0 : w1.cell? ⟨gd, od, none⟩ = some (.int .u8 (d0.r : Int)) := by simpa using z0
              have z1 : w1.cell? ⟨gd, od + 1, none⟩ = some (.int .u32 (d0.n : Int)) := by simpa using z1
              have z0 := hI.frm.cellF z0
              have z1 := hI.frm.cellF z1
              have hgl : g < wr.heap.size := World.block_lt_of_cell? wr ⟨g, _, none⟩ c1
              have hgd : gd < wr.heap.size := World.block_lt_of_cell? wr ⟨gd, _, none⟩ z0
              have hdp : (0 : Int) < (d.length : Int) := by rw [hdd]; simp
              have hdp2 : 0 < d.length := by rw [hdd]; simp
              have hdn : ¬ d = [] := by rw [hdd]; simp
              obtain ⟨W2, hW2⟩ : ∃ W2, (wr.alloc (.cells #[.string (bs nm), .bool false, .bool false, .string (bs s), .slice (some ⟨gd, od, none⟩) d.length cd] 54)).alloc (.cells #[.int .u8 (d0.r : Int), .int .u32 (d0.n : Int)] 78) = W2 := ⟨_, rfl⟩
              have g2 : Frm (fun _ => False) wr W2 := by rw [← hW2]; exact gB.alloc _
              have bD : Blk W2 (wr.heap.size + 1) 78 #[.int .u8 (d0.r : Int), .int .u32 (d0.n : Int)] := by
                rw [← hW2]
                have := Blk.alloc (wr.alloc (.cells #[.string (bs nm), .bool false, .bool false, .string (bs s), .slice (some ⟨gd, od, none⟩) d.length cd] 54)) 78 #[.int .u8 (d0.r : Int), .int .u32 (d0.n : Int)]
                rw [World.size_alloc] at this
                exact this
              have bS : Blk W2 wr.heap.size 54 #[.string (bs nm), .bool false, .bool false, .string (bs s), .slice (some ⟨gd, od, none⟩) d.length cd] := by
                rw [← hW2]
                exact bB.old _
              have y0 : W2.cell? ⟨wr.heap.size + 1, 0, none⟩ = some (.int .u8 (d0.r : Int)) := bD.cell 0 rfl
              have y1 : W2.cell? ⟨wr.heap.size + 1, 1, none⟩ = some (.int .u32 (d0.n : Int)) := bD.cell 1 rfl
              have hC := rconflict_any nm d0.r d0.n W2 hN.out
              obtain ⟨⟨cfn, cfe⟩, hcfn⟩ : ∃ X, conflict nm d0.r d0.n = X := ⟨_, rfl⟩
              rw [hcfn] at hC
              have HC := Lib.hid hC
              have HK := Lib.hid (And.intro hI (And.intro g2 (And.intro bS (And.intro hcfn (And.intro htf (And.intro hFm (And.intro hll (And.intro hn8 hdd))))))))
              clear hI g2 bS hC hcfn htf hFm hll hn8 hdd gB bB bD hdl hmm hy hc hdir hne hFl
              go_wp2_with fail
              refine HC.out.mono ?_
              rintro e W5 ⟨rfl, g5⟩
              obtain ⟨hI, g2, bS, hcfn, htf, hFm, hll, hn8, hdd⟩ := HK.out
              have bS5 := bS.keep g5 (fun h => h)
              have g25 := g2.trans g5
              have gW : Frm (fun _ => False) wr ((W5.setCell ⟨wr.heap.size, 0, none⟩ (.string (bs cfn))).setCell ⟨wr.heap.size, 2, none⟩ (.bool true)) := (g25.setCell (fun h => absurd h (Nat.lt_irrefl _)) _).setCell (fun h => absurd h (Nat.lt_irrefl _)) _
              obtain ⟨v', W', hrun, hI2⟩ := hI.add (D' := D) (F' := (P.take (k + 1)).filter (fun x => !isDir x.1.s)) (y := ((⟨cfn, false, true, ⟨s, d⟩⟩ : SeenI), .slice (some ⟨gd, od, none⟩) d.length cd)) gW rfl (by rw [htf, seesF_add]; simp only [seeF]; rw [if_neg (by omega), hdd]; simp [cfR, hcfn]) hI.d hFm hll
              rw [World.size_setCell, World.size_setCell] at hrun
              have Hrun := Lib.hid hrun
              have HI2 := Lib.hid hI2
              obtain ⟨a9, n9, c9, rfl, _⟩ := RatI.slice hI2
              have x0 : W5.cell? ⟨wr.heap.size, 0, none⟩ = some (.string (bs nm)) := bS5.cell 0 rfl
              have x1 : W5.cell? ⟨wr.heap.size, 1, none⟩ = some (.bool false) := bS5.cell 1 rfl
              have x2 : W5.cell? ⟨wr.heap.size, 2, none⟩ = some (.bool false) := bS5.cell 2 rfl
              have x3 : W5.cell? ⟨wr.heap.size, 3, none⟩ = some (.string (bs s)) := bS5.cell 3 rfl
              have x4 : W5.cell? ⟨wr.heap.size, 4, none⟩ = some (.slice (some ⟨gd, od, none⟩) d.length cd) := bS5.cell 4 rfl
              have f0 := bS5.free 0
              have f2 := bS5.free 2
              clear hrun hI2 hI g2 bS hcfn htf hFm hll hn8 hdd bS5 g25 gW g5 y0 y1 hW2 HC HK
              go_wp2_with (first | (at_builtin; refine Lib.wpList_append_run _ rfl _ _ _ _ rfl _ _ rfl rfl _ _ Hrun.out ?_) | fail)
              go_roundw
              case rel => exact ⟨k + 1, by omega, by go_num, HI2.out⟩
              case measure => simp [intOf]; omega
        · obtain rfl : k = P.length := by omega
          rw [take_all _ _ rfl] at hI
          have HI := Lib.hid hI
          clear hI hFl hn8
          go_wp2_with fail
          go_ret
          obtain ⟨h1, h2, h3, h4, h5⟩ := HI.out
          refine ⟨_, _, rfl, h1, fun i hi => ?_, ?_, HP.out.2.2.2.2.trans h5⟩
          · obtain ⟨x, hx, e1, e2⟩ := sees_mem _ (List.getElem_mem hi)
            have hxP : x ∈ P := hx.elim (h3 x) (h4 x)
            obtain ⟨j, hj, hjx⟩ := List.getElem_of_mem hxP
            have hd := HP.out.2.1 j hj
            rw [hjx] at hd
            rw [e1, e2]
            exact hd.keepF h5
          · rw [List.map_append, seesF_fst, seesD_fst, ← HI0.out.2, List.map_filt (fun g => isDir g.s), List.map_filt (fun g => !isDir g.s), HP.out.2.2.2.1]
            have el : (P.filter (fun x => isDir x.1.s)).length = ((grps (sameR q) l).filter (fun g => isDir g.s)).length := by
              rw [← HP.out.2.2.2.1, ← List.map_filt (fun g => isDir g.s), List.length_map]
            rw [el]
            rfl
end Go.Proofs.YtiokabhidjafeaaDoor

