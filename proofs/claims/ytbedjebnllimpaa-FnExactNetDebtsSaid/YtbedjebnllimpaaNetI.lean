/- Debts netted, in the program. -/
import Derived.Test.YtbedjebnllimpaaTakeI
import Derived.Test.YtbedjebnllimpaaDebtI
import Derived.Deep.LoopGhost
namespace Go.Proofs.Ytbedjebnllimpaa
open Go.RowKit

theorem own_nilT (w : World) (B : Nat) : OwnT w B (.slice none 0 0) [] := ⟨[], rfl, World.ownsRow_nil w B _ 1, fun _ hi => absurd hi (Nat.not_lt_zero _), fun _ _ hi => absurd hi (Nat.not_lt_zero _)⟩

theorem circV_nil {w : World} {o : Option (List Nat)} (h : CircV w (.slice none 0 0) o) : o = none := by
  cases o with
  | none => rfl
  | some t =>
    obtain ⟨⟨a, cap, e, hc⟩, ht⟩ := h
    obtain ⟨b, off, ea, _⟩ := hc 0 (by rw [ti_length]; exact ht)
    rw [ea] at e
    cases e

set_option maxRecDepth 100000 in
set_option maxHeartbeats 6400000 in
theorem NetDebts_impl (v : Value) (g : List (List Int)) (w : World) (hv : IsGrid w v g) (hl : g.length ≤ 9223372036854775807) (hr : ∀ i, i < g.length → (rowOf g i).length ≤ 9223372036854775807) :
    Calls Try.prog 29 #[v] w fun e w' => ∃ v', e = .returned v' ∧ OwnT w' w.heap.size v' (netL g) ∧ Below w.heap.size w w' := by
  have H := Lib.hid (ValidDebts_impl v g w hv hl hr)
  cases hd : vDebts g
  · have E : Hid (netL g = []) := by show netL g = []; rw [netL, hd]; rfl
    have h := H.out
    rw [hd] at h
    have H2 := Lib.hid h
    obtain ⟨a, cap, rfl, _⟩ := hv
    clear h hd
    go_enter Try.func29, Try.ntmps29
    go_wp2_with fail
    refine H2.out.mono ?_
    rintro e w' ⟨rfl, rfl⟩
    go_wp2
    go_ret
    exact ⟨_, rfl, by rw [E.out]; exact own_nilT _ _, Below.refl _ _⟩
  · have E : Hid (netL g = netF 2000 g) := by show netL g = netF 2000 g; rw [netL, if_pos hd]
    have h := H.out
    rw [hd] at h
    have H2 := Lib.hid h
    have HD := Lib.hid hd
    have hn := ((vDebts_iff g).1 hd).1
    have HRL : Hid (∀ i, i < g.length → (rowOf g i).length = g.length) := fun i hi => vDebts_sq HD.out i hi
    have n6 : g.length ≤ 6 := hn.2
    have n1 : 1 ≤ g.length := hn.1
    have q28 : ∀ (w : World) (a : Option Addr) (n c : Nat), (binOp .neq 28 (.slice a n c) (.slice none 0 0)).run Try.prog w = .ok (.bool (!a.isNone)) w := fun w a n c => run_neq_slice_nil w _ _ a n c Try.underlying28
    clear h hd hn
    obtain ⟨a, cap, rfl, _⟩ := id hv
    obtain ⟨i0, hi, hz0, hz1, hz2⟩ := info_parts infoInts
    go_enter Try.func29, Try.ntmps29
    go_wp2_with fail
    refine H2.out.mono ?_
    rintro e w' ⟨rfl, rfl⟩
    go_wp2_with (at_make; refine wpList_make_full _ rfl _ _ 23 rfl w.heap.size 28 i0 (.slice none 0 0) 1 Try.underlying23 hi hz0 hz1 _ _ _ _ g.length rfl rfl rfl rfl ?b2 ?b3 (Nat.le_refl _) ?_)
    case b2 => rw [hz2]; omega
    case b3 => unfold maxLen; omega
    intro w0 hown0 hgrow0
    have hb0 : Below w.heap.size w w0 := below_grown hgrow0 (Nat.le_refl _) (fun k h => by cases h)
    have hsz : w.heap.size ≤ w0.heap.size := hb0.size
    have hw0 : w0.ownsRow w.heap.size 28 1 (.slice (some ⟨w.heap.size, 0, none⟩) g.length g.length) g.length (([] : List Value) ++ List.replicate (g.length - 0) (Value.slice none 0 0)) := by
      rw [toList_madeCells_one] at hown0
      simpa using hown0
    clear hown0 hgrow0
    go_wp2
    go_loopw [15] (fun s wr => ∃ (i : Nat) (vs : List Value), i ≤ g.length ∧ s = .int .i64 i ∧ vs.length = i ∧ wr.ownsRow w.heap.size 28 1 (.slice (some ⟨w.heap.size, 0, none⟩) g.length g.length) g.length (vs ++ List.replicate (g.length - i) (Value.slice none 0 0)) ∧ (∀ j, j < i → Own wr (w.heap.size + 1) (vs.getD j undef) (rowOf g j)) ∧ (∀ j k, j < i → k < i → j ≠ k → apartB (vs.getD j undef) (vs.getD k undef)) ∧ Below w.heap.size w wr)
      (fun s _ => g.length - (intOf s).toNat)
    case atStart => exact ⟨0, [], Nat.zero_le _, rfl, rfl, hw0, fun j hj => by omega, fun j k hj => by omega, hb0⟩
    case round =>
      clear hw0 hb0 hsz
      obtain ⟨i, vs, hi', rfl, hvl, hown, hrows, hap, hbl⟩ := hrel
      by_cases hlt : i < g.length
      · have hvr := hv.below hbl
        obtain ⟨b, off, ar, cr, rfl, ci, cc⟩ := hvr.row i hlt
        have hrow : IsInts wr (.slice ar (rowOf g i).length cr) (rowOf g i) := ⟨ar, cr, rfl, cc⟩
        have i1 : (i : Int) < (g.length : Int) := by omega
        have HCL := Lib.hid (Clone_impl _ (rowOf g i) wr hrow (by rw [HRL.out i hlt]; omega) (by rw [HRL.out i hlt]; omega))
        have hdst : wr.cell? ⟨w.heap.size, i, none⟩ = some (.slice none 0 0) := by
          rw [hown.cellAt i (by omega), List.getElem?_append_right (by omega), List.getElem?_replicate, if_pos (by omega)]
        have hfr : wr.frozen? ⟨w.heap.size, i, none⟩ = false := hown.frozenAt i
        have hBr : w.heap.size < wr.heap.size := World.block_lt_of_cell? wr ⟨w.heap.size, i, none⟩ hdst
        clear hvr cc
        go_wp2_with fail
        refine HCL.out.mono ?_
        rintro e w1 ⟨gx, cx, rfl, _, ho1, hb1⟩
        have hown1 := World.ownsRow.kept hown (grown_below hb1 none) (.inr (by simp [Value.ownBlock]))
        have hdst1 : w1.cell? ⟨w.heap.size, i, none⟩ = some (.slice none 0 0) := (hb1.cell (p := ⟨w.heap.size, i, none⟩) hBr).trans hdst
        have hfr1 : w1.frozen? ⟨w.heap.size, i, none⟩ = false := hown1.frozenAt i
        have hst := hown1.stored i (sl gx (rowOf g i).length cx)
        rw [set_vals vs (sl gx (rowOf g i).length cx) g.length i hvl hlt] at hst
        have hbl1 : Below w.heap.size w w1 := hbl.trans (hb1.mono hbl.size)
        have hb2 : Below w.heap.size w (w1.setCell ⟨w.heap.size, i, none⟩ (sl gx (rowOf g i).length cx)) := hbl1.setCell (by exact Nat.le_refl _) _
        have hrows2 : ∀ j, j < i + 1 → Own (w1.setCell ⟨w.heap.size, i, none⟩ (sl gx (rowOf g i).length cx)) (w.heap.size + 1) ((vs ++ [sl gx (rowOf g i).length cx]).getD j undef) (rowOf g j) := by
          intro j hj
          have hne : ∀ (v : Value) (xs : List Int), Own w1 (w.heap.size + 1) v xs → Own (w1.setCell ⟨w.heap.size, i, none⟩ (sl gx (rowOf g i).length cx)) (w.heap.size + 1) v xs := fun v xs h => h.kept hst.2 (by
            cases hv : v.ownBlock with
            | none => exact .inl rfl
            | some k => exact .inr (by intro e; have := (h.lt k hv).1; simp at e; omega))
          by_cases hji : j = i
          · rw [hji]
            rw [show (vs ++ [sl gx (rowOf g i).length cx]).getD i undef = sl gx (rowOf g i).length cx by simp [List.getD, hvl]]
            exact hne _ _ (ho1.base (by omega))
          · rw [show (vs ++ [sl gx (rowOf g i).length cx]).getD j undef = vs.getD j undef by simp [List.getD, List.getElem?_append_left (show j < vs.length by omega)]]
            exact hne _ _ ((hrows j (by omega)).below hb1)
        have hap2 : ∀ j k, j < i + 1 → k < i + 1 → j ≠ k → apartB ((vs ++ [sl gx (rowOf g i).length cx]).getD j undef) ((vs ++ [sl gx (rowOf g i).length cx]).getD k undef) := by
          have hn : ∀ j, j < i → apartB (vs.getD j undef) (sl gx (rowOf g i).length cx) := fun j hj => apartB_of (fun k hk => ((hrows j hj).lt k hk).2) (fun k hk => (ho1.lt k hk).1)
          have e1 : (vs ++ [sl gx (rowOf g i).length cx]).getD i undef = sl gx (rowOf g i).length cx := by simp [List.getD, hvl]
          have e2 : ∀ j, j < i → (vs ++ [sl gx (rowOf g i).length cx]).getD j undef = vs.getD j undef := fun j hj => by simp [List.getD, List.getElem?_append_left (show j < vs.length by omega)]
          intro j k hj hk hjk
          by_cases hji : j = i
          · rw [hji, e1, e2 k (by omega)]; exact (hn k (by omega)).symm
          · rw [e2 j (by omega)]
            by_cases hki : k = i
            · rw [hki, e1]; exact hn j (by omega)
            · rw [e2 k (by omega)]; exact hap j k (by omega) (by omega) hjk
        have H3 := Lib.hid hap2
        have H1 := Lib.hid hst.1
        have H2 := Lib.hid hrows2
        clear hst hrows2 hrows hap hap2 hown hown1 hdst hfr ho1 hrow ci hb1
        go_wp2
        go_roundw
        case rel => exact ⟨i + 1, vs ++ [sl gx (rowOf g i).length cx], by omega, by go_num, by simp [hvl], H1.out, H2.out, H3.out, hb2⟩
        case measure => simp [intOf]; omega
      · have hie : i = g.length := by omega
        subst hie
        rw [Nat.sub_self, List.replicate_zero, List.append_nil] at hown
        have hG : Hid (OwnT wr w.heap.size (.slice (some ⟨w.heap.size, 0, none⟩) g.length g.length) g) :=
          ⟨vs, hvl, hown, fun j hj => ⟨(hrows j hj).base (by omega), .inr (by
            intro e
            have := ((hrows j hj).lt w.heap.size (by rw [e]; rfl)).1
            omega)⟩, fun j k hj hk hjk => hap j k hj hk hjk⟩
        clear hrows hown hap
        have HGO := Lib.hid (show OwnT wr w.heap.size (.slice (some ⟨w.heap.size, 0, none⟩) g.length g.length) g from hG.out)
        have HFC := Lib.hid (firstCircle_impl (.slice (some ⟨w.heap.size, 0, none⟩) g.length g.length) g HD.out wr hG.out.grid)
        have hs0 := (sumG_bounds HD.out).2
        clear hG
        go_wp2_with fail
        refine HFC.out.mono ?_
        rintro e w1 ⟨v1, rfl, hc1, hb1⟩
        have hT1 := HGO.out.below hb1
        have hbl1 : Below w.heap.size w w1 := hbl.trans (hb1.mono hbl.size)
        obtain ⟨vsg, hT2⟩ := hT1.values
        clear hT1 hb1 hbl
        go_wp2
        go_loopg [6] 2000 (fun f cv wx => ∃ (gc : List (List Int)), vDebts gc = true ∧ gc.length = g.length ∧ netF f gc = netF 2000 g ∧ sumG gc < f ∧ OwnTV wx w.heap.size (.slice (some ⟨w.heap.size, 0, none⟩) g.length g.length) vsg gc ∧ CircV wx cv (fcF gc) ∧ Below w.heap.size w wx)
        case atStart => exact ⟨g, HD.out, rfl, rfl, by omega, hT2, hc1, hbl1⟩
        case round =>
          obtain ⟨gc, hvd, hgl, hnf, hsm, hT, hcv, hbl⟩ := hrel
          rename World => wx
          clear hT2 hc1 hbl1
          have HVD := Lib.hid hvd
          have HGL := Lib.hid hgl
          have HNF := Lib.hid hnf
          cases hcf : fcF gc with
          | none =>
            rw [hcf] at hcv
            have hcv' : u6 = .slice none 0 0 := hcv
            subst hcv'
            have HT : Hid (OwnT wx w.heap.size (.slice (some ⟨w.heap.size, 0, none⟩) g.length g.length) (netL g)) := by
              show OwnT _ _ _ _
              have h := HNF.out
              rw [netF_end hcf] at h
              rw [E.out, ← h]
              exact hT.table
            clear hcv hcf hT hgl hnf hvd
            go_wp2
            go_ret
            exact ⟨_, rfl, HT.out, hbl⟩
          | some c =>
            rw [hcf] at hcv
            obtain ⟨hi5, ht5⟩ : IsInts wx u6 (ti c) ∧ 0 < c.length := hcv
            have h0 := (sumG_bounds hvd).1
            obtain ⟨fO, rfl⟩ : ∃ q, gk = q + 1 := ⟨gk - 1, by omega⟩
            have hgood := fc_good hcf
            have hdf := down_facts hvd hgood.1 hgood.2
            have HNF2 : Hid (netF fO (downC gc c) = netF 2000 g) := by show _ = _; rw [← HNF.out, netF_step hcf]
            have HDV := Lib.hid hdf.1
            have HDL : Hid ((downC gc c).length = g.length) := by show _ = _; rw [hdf.2.1]; exact hgl
            have hsm2 : sumG (downC gc c) < (fO : Int) := by have := hdf.2.2.1; omega
            have HTD := Lib.hid (takeDown_impl (.slice (some ⟨w.heap.size, 0, none⟩) g.length g.length) u6 vsg gc c w.heap.size wx hvd hgood.1 hgood.2 hT hbl.size hi5)
            obtain ⟨a5, c5, rfl, hc5⟩ := hi5
            obtain ⟨b5, f5, rfl, _⟩ := hc5 0 (by rw [ti_length]; exact ht5)
            clear hgood hdf hcf hc5 hT hgl hnf hvd hsm
            go_wp2_with (go_at_call 73; refine HTD.out.mono ?_)
            rintro e w2 ⟨rfl, hT2, hb2⟩
            have hbl2 : Below w.heap.size w w2 := hbl.trans hb2
            have HFC2 := Lib.hid (firstCircle_impl (.slice (some ⟨w.heap.size, 0, none⟩) g.length g.length) (downC gc c) HDV.out w2 hT2.table.grid)
            have HT2 := Lib.hid hT2
            clear hT2 hb2 hbl
            go_wp2_with (go_at_call 72; refine HFC2.out.mono ?_)
            rintro e w3 ⟨v3, rfl, hc3, hb3⟩
            have hT3 := HT2.out.below hb3
            have hbl3 : Below w.heap.size w w3 := hbl2.trans (hb3.mono hbl2.size)
            have HT3 := Lib.hid hT3
            have HC3 := Lib.hid hc3
            clear hT3 hc3 hb3 hbl2
            go_wp2
            go_roundg fO
            case measure => omega
            case rel => exact ⟨_, HDV.out, HDL.out, HNF2.out, hsm2, HT3.out, HC3.out, hbl3⟩

end Go.Proofs.Ytbedjebnllimpaa
