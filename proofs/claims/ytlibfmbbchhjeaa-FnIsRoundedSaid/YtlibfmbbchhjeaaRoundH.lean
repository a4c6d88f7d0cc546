/- The model's search: roundFrom, the first place of a row. -/
import Derived.Test.YtlibfmbbchhjeaaRoundG
namespace Go.Proofs.Ytlibfmbbchhjeaa
open Go.RowKit Flat

section
variable {g : List (List Int)} {u : Int}

theorem snoc_set {o : List (List Int)} {x : Int} {i : Nat} (h : i = o.length) : (o ++ [[]]).set i (rowOf (o ++ [[]]) i ++ [x]) = o ++ [[x]] := by
  subst h
  rw [rowOf_snoc_eq, List.set_append_right _ _ (Nat.le_refl _), Nat.sub_self]
  rfl

set_option maxRecDepth 100000 in
set_option maxHeartbeats 6400000 in
theorem roundFrom_row (vg v : Value) (w : World) (B r p : Nat) (c : Nat → Int) (h1 : vGrid g u = true) (hp : p + (r + 1) = g.length * (rowOf g 0).length) (hok : okTo g u p c) (hg : IsGrid w vg g) (ho : OwnT w B v (part (rowOf g 0).length p c)) (hB : B ≤ w.heap.size)
    (hbad : badRow g u (rowOf g 0).length p (part (rowOf g 0).length p c) = false) (hkm : p % (rowOf g 0).length = 0)
    (IH : ∀ (v' : Value) (w' : World) (B' : Nat) (c' : Nat → Int), okTo g u (p + 1) c' → IsGrid w' vg g → OwnT w' B' v' (part (rowOf g 0).length (p + 1) c') → B' ≤ w'.heap.size →
      Calls Try.prog 79 #[vg, .int .i64 u, v', .int .i64 (p + 1 : Nat)] w' (FromOut w' B' (fromM g u (rowOf g 0).length (g.length * (rowOf g 0).length) r (part (rowOf g 0).length (p + 1) c')) r)) :
    Calls Try.prog 79 #[vg, .int .i64 u, v, .int .i64 p] w (FromOut w B (fromM g u (rowOf g 0).length (g.length * (rowOf g 0).length) (r + 1) (part (rowOf g 0).length p c)) (r + 1)) := by
  have hgs := small_vGrid h1
  have hu := ((vGrid_iff g u).1 h1).2.1
  have hm : 0 < (rowOf g 0).length := by have := hgs.2.1; omega
  have hpl := place_of h1 (show p < g.length * (rowOf g 0).length by omega)
  have htiny := part_tiny h1 hok (show p ≤ g.length * (rowOf g 0).length by omega)
  have hlen := part_len hm p c
  have HG := Lib.hid hg
  have HO := Lib.hid ho
  have HI := Lib.hid IH
  have hog := ho.grid
  have n1 : (1 : Int) ≤ ((rowOf g 0).length : Int) ∧ ((rowOf g 0).length : Int) ≤ 3 := by have := hgs.2.1; omega
  have n2 : (1 : Int) ≤ (g.length : Int) ∧ (g.length : Int) ≤ 3 := by have := hgs.1; omega
  have n3 : (g.length : Int) * ((rowOf g 0).length : Int) ≤ 9 := by
    have := Int.mul_le_mul_of_nonneg_right n2.2 (show 0 ≤ ((rowOf g 0).length : Int) by omega)
    omega
  have n4 : 0 ≤ (g.length : Int) * ((rowOf g 0).length : Int) := Int.mul_nonneg (by omega) (by omega)
  have np : ((p : Nat) : Int) < (g.length : Int) * ((rowOf g 0).length : Int) := by rw [← Int.natCast_mul]; omega
  have heq : ((p : Int) == (g.length : Int) * ((rowOf g 0).length : Int)) = false := by simp; omega
  have hdiv : (p : Int) / ((rowOf g 0).length : Int) = ((p / (rowOf g 0).length : Nat) : Int) := by simp
  have hmod : (p : Int) % ((rowOf g 0).length : Int) = ((p % (rowOf g 0).length : Nat) : Int) := by simp
  obtain ⟨i, hi⟩ : ∃ i, p / (rowOf g 0).length = i := ⟨_, rfl⟩
  obtain ⟨k, hk⟩ : ∃ k, p % (rowOf g 0).length = k := ⟨_, rfl⟩
  rw [hi, hk] at hpl hlen
  rw [hi] at hdiv
  rw [hk] at hmod
  obtain ⟨a, cap, rfl, _⟩ := id hg
  obtain ⟨ao, co, rfl, _⟩ := id hog
  obtain ⟨b, off, ar, cr, rfl, c0, _⟩ := hg.row 0 (by have := hgs.1; omega)
  rw [Nat.add_zero] at c0
  have i2 : 0 < g.length := by have := hgs.1; omega
  have i3 : g ≠ [] := by intro h; rw [h] at i2; exact absurd i2 (by decide)
  have HPL := Lib.hid hpl
  have HT := Lib.hid htiny
  have HL := Lib.hid hlen
  have HI1 := Lib.hid hi
  have HK1 := Lib.hid hk
  have hil := hpl.il
  have hkl := hpl.kl
  have hlow := hpl.low
  clear IH hg ho hpl htiny hlen hi hk hog
  have E := Lib.hid (fromM_good (N := g.length * (rowOf g 0).length) hp hbad)
  have UP := Lib.hid (up_eq h1 HPL.out)
  have HCE := Lib.hid HPL.out.cell
  have hcb : 0 ≤ cellOf g i k / u ∧ cellOf g i k / u ≤ 50 := by rw [← HPL.out.cell]; exact (fF_bounds h1 (show p < g.length * (rowOf g 0).length by omega)).2.2
  have hfb := (fF_bounds h1 (show p < g.length * (rowOf g 0).length by omega)).2.2
  have hk0 : k = 0 := by rw [← HK1.out]; exact hkm
  have hways : i = 0 ∨ (0 < i ∧ nearB (tot (rowOf (part (rowOf g 0).length p c) (i - 1))) (tot (rowOf g (i - 1))) u = true) := by
    by_cases e2 : i = 0
    · exact .inl e2
    · refine .inr ⟨by omega, ?_⟩
      unfold badRow at hbad
      rw [HI1.out, HK1.out, decide_eq_true (show k = 0 ∧ 0 < i from ⟨hk0, by omega⟩)] at hbad
      simpa using hbad
  clear hbad hkm
  have HW := Lib.hid hways
  clear hways
  -- the place's row and number in the grid
  obtain ⟨bi, fi, ari, cri, ei, ci, hrow⟩ := HG.out.row i hil
  simp only [Option.some.injEq, Addr.mk.injEq, and_true] at ei
  obtain ⟨rfl, rfl⟩ := ei
  obtain ⟨br, fr, rfl, ck⟩ := hrow k (by rw [(hgs.2.2 i hil).1]; exact hkl)
  have hli : (rowOf g i).length = (rowOf g 0).length := (hgs.2.2 i hil).1
  have HLI := Lib.hid hli
  have GC : Hid (∀ w', Below w.heap.size w w' → w'.cell? ⟨b, off + i, none⟩ = some (.slice (some ⟨br, fr, none⟩) (rowOf g i).length cri) ∧ w'.cell? ⟨br, fr + k, none⟩ = some (.int .i64 (cellOf g i k))) := fun w' hw' =>
    ⟨(hw'.cell (p := ⟨b, off + i, none⟩) (World.block_lt_of_cell? w _ ci)).trans ci, (hw'.cell (p := ⟨br, fr + k, none⟩) (World.block_lt_of_cell? w _ ck)).trans ck⟩
  have gl1 : (i : Int) < (g.length : Int) := by omega
  have gl2 : (k : Int) < ((rowOf g i).length : Int) := by omega
  clear hrow hli
  subst hk0
  have hmod0 : (p : Int) % ((rowOf g 0).length : Int) = 0 := hmod
  have gl3 : (0 : Int) < ((rowOf g i).length : Int) := gl2
  clear hmod gl2
  rcases HW.out with hi0 | ⟨hi0, hnb⟩
  · subst hi0
    have hdiv0 : (p : Int) / ((rowOf g 0).length : Int) = 0 := hdiv
    have gl0 : (0 : Int) < (g.length : Int) := gl1
    clear hdiv gl1
    go_enter Try.func79, Try.ntmps79
    go_wp2
    go_quiet (fail)
    have hb0 := below_drewN (Below.refl w.heap.size w) nq
    generalize w.drewN nq = w1 at *
    obtain ⟨cg1, ck1⟩ := GC.out w1 hb0
    simp only [Nat.add_zero] at cg1 ck1
    go_wp2
    go_loopw [13] (fun x wr => ∃ d : Nat, d ≤ 2 ∧ x = .int .i64 (cellOf g 0 0 / u + d) ∧ (1 ≤ d → fromM g u (rowOf g 0).length (g.length * (rowOf g 0).length) r (pushC (rowOf g 0).length p (part (rowOf g 0).length p c) (fF g u p)) = none) ∧ (d = 2 → incF g u p = true ∧ fromM g u (rowOf g 0).length (g.length * (rowOf g 0).length) r (pushC (rowOf g 0).length p (part (rowOf g 0).length p c) (fF g u p + 1)) = none) ∧ Below w.heap.size w wr) (fun x _ => (cellOf g 0 0 / u + 2 - intOf x).toNat)
    case atStart => exact ⟨0, by decide, by simp, fun h => absurd h (by decide), fun h => absurd h (by decide), hb0⟩
    case round =>
      obtain ⟨d, hd, rfl, hn1, hn2, hbl⟩ := hrel
      rename World => w2
      obtain ⟨cg, ck⟩ := GC.out w2 hbl
      simp only [Nat.add_zero] at cg ck
      have gr1 := HG.out.below hbl
      have ho1 := HO.out.below hbl
      have hB1 : w.heap.size ≤ w2.heap.size := hbl.size
      by_cases hx : cellOf g 0 0 / u + (d : Int) ≤ (cellOf g 0 0 + u - 1) / u
      · go_wp2
        go_loopw [14, 15] (fun nv j wx => ∃ q : Nat, q ≤ (part (rowOf g 0).length p c).length ∧ j = .int .i64 q ∧ (∃ vs, OwnTV wx w2.heap.size nv vs ((part (rowOf g 0).length p c).take q)) ∧ Below w2.heap.size w2 wx) (fun _ j _ => (part (rowOf g 0).length p c).length - (intOf j).toNat)
        case atStart => exact ⟨0, Nat.zero_le _, rfl, ⟨[], by simpa using ownTV_empty w2 _ (Nat.le_refl _)⟩, (Below.refl _ _).alloc (Nat.le_refl _) _⟩
        case round =>
          obtain ⟨q, hq, rfl, ⟨vs, hvs⟩, hbx⟩ := hrel
          rename World => w3
          by_cases hqx : q < (part (rowOf g 0).length p c).length
          · have qx : (q : Int) < ((part (rowOf g 0).length p c).length : Int) := by omega
            obtain ⟨bo, fo, aro, cro, rfl, ci, ri⟩ := (ho1.grid).row q hqx
            have r2 : IsInts w2 (.slice aro (rowOf (part (rowOf g 0).length p c) q).length cro) (rowOf (part (rowOf g 0).length p c) q) := ⟨aro, cro, rfl, ri⟩
            have hli := (HT.out.2 q hqx).1
            have hq3 : q ≤ 3 := by have := HT.out.1; omega
            have hba : Below w3.heap.size w3 (w3.alloc (.cells #[] 3)) := (Below.refl _ _).alloc (Nat.le_refl _) _
            have hs3 : w2.heap.size ≤ w3.heap.size := hbx.size
            have r3 := r2.below (hbx.trans (hba.mono hs3))
            have c3 := (hbx.cell (p := ⟨bo, fo + q, none⟩) (World.block_lt_of_cell? w2 _ ci)).trans ci
            have cx := (hba.cell (p := ⟨bo, fo + q, none⟩) (World.block_lt_of_cell? w3 _ c3)).trans c3
            have oe := own_empty w3 w3.heap.size (Nat.le_refl _)
            have hsz : w3.heap.size ≤ (w3.alloc (.cells #[] 3)).heap.size := hba.size
            clear ri r2 ci c3
            go_wp2_with (at_builtin; refine wpList_spread oe r3 hli.1 (by simp; omega) hsz (h := ?_))
            intro rv w4 o4 g4 m4
            rcases id o4.2 with ⟨_, hz⟩ | ⟨gr, capr, cur, rfl, _⟩
            · exact absurd hz (by omega)
            have hb4 : Below w3.heap.size w3 w4 := hba.trans (below_grown g4 hsz (fun k hk => by simp [Value.ownBlock] at hk; omega))
            have hs4 : w3.heap.size ≤ w4.heap.size := hb4.size
            have v4 := hvs.below hb4
            have vlt := hvs.lt
            have hlt4 : ((part (rowOf g 0).length p c).take q).length ≤ 1048576 := by have := HT.out.1; rw [List.length_take]; omega
            have hap : apartB (.slice (some ⟨gr, 0, none⟩) (rowOf (part (rowOf g 0).length p c) q).length capr) u14 := (apartB_of (fun k hk => (vlt.1 k hk).2) (fun k hk => (o4.lt k hk).1)).symm
            have hrs : ∀ j, j < ((part (rowOf g 0).length p c).take q).length → apartB (vs.getD j undef) (.slice (some ⟨gr, 0, none⟩) (rowOf (part (rowOf g 0).length p c) q).length capr) := fun j hj => apartB_of (fun k hk => (vlt.2 j hj k hk).2) (fun k hk => (o4.lt k hk).1)
            have hs24 : w2.heap.size ≤ w4.heap.size := by omega
            go_wp2_with (at_builtin; refine wpList_pushT v4 (o4.base hs3) hap hrs rfl hlt4 hs24 (h := ?_))
            intro nv w5 v5 g5 m5
            rw [← take_row hqx] at v5
            have hb5 : Below w2.heap.size w2 w5 := (hbx.trans (hb4.mono hs3)).trans (below_grown g5 hs24 (fun k hk => (vlt.1 k hk).1))
            have V5 := Lib.hid v5
            clear v5 v4 vlt hrs hap o4 g4 m4 g5 m5 oe cx r3
            go_wp2
            go_roundw
            case rel => exact ⟨q + 1, by omega, by go_num, ⟨_, V5.out⟩, hb5⟩
            case measure => simp [intOf]; omega
          · have hqe : q = (part (rowOf g 0).length p c).length := by omega
            subst hqe
            rw [List.take_length] at hvs
            have HIO : Hid (0 = (part (rowOf g 0).length p c).length) := by show 0 = _; rw [HL.out]; rfl
            have hba : Below w3.heap.size w3 (w3.alloc (.cells #[] 3)) := (Below.refl _ _).alloc (Nat.le_refl _) _
            have v0 := hvs.below hba
            have oe := own_empty w3 w3.heap.size (Nat.le_refl _)
            have vlt0 := hvs.lt
            have hs23a : w2.heap.size ≤ w3.heap.size := hbx.size
            have hs0 : w2.heap.size ≤ (w3.alloc (.cells #[] 3)).heap.size := Nat.le_trans hs23a hba.size
            have hap0 : apartB (sl w3.heap.size 0 0) u14 := (apartB_of (fun k hk => (vlt0.1 k hk).2) (fun k hk => (oe.lt k hk).1)).symm
            have hrs0 : ∀ j, j < (part (rowOf g 0).length p c).length → apartB (vs.getD j undef) (sl w3.heap.size 0 0) := fun j hj => apartB_of (fun k hk => (vlt0.2 j hj k hk).2) (fun k hk => (oe.lt k hk).1)
            have hl0 : (part (rowOf g 0).length p c).length ≤ 1048576 := by have := HT.out.1; omega
            go_wp2_with (at_builtin; refine wpList_pushT v0 (oe.base hs23a) hap0 hrs0 rfl hl0 hs0 (hx := by rw [show (w3.alloc (.cells #[] 3)).heap.size = w3.heap.size + 1 by simp]; rfl) (h := ?_))
            intro nv0 w3b v3b g3b m3b
            have hbx3 : Below w2.heap.size w2 w3b := (hbx.trans (hba.mono hs23a)).trans (below_grown g3b hs0 (fun k hk => (vlt0.1 k hk).1))
            generalize vs ++ [sl w3.heap.size 0 0] = vs2 at v3b
            have hil2 : 0 < (part (rowOf g 0).length p c ++ [[]]).length := by rw [List.length_append, ← HIO.out]; exact Nat.lt_succ_self _
            have HRW : Hid (rowOf (part (rowOf g 0).length p c ++ [[]]) 0 = []) := by
              have h := @rowOf_snoc_eq (part (rowOf g 0).length p c) []
              rwa [← HIO.out] at h
            clear g3b m3b v0 oe vlt0 hap0 hrs0
            rcases id v3b.2.1.2 with ⟨_, hz⟩ | ⟨gn, capn, curn, rfl, _⟩
            · exact absurd hz (by omega)
            have ilx : (0 : Int) < ((part (rowOf g 0).length p c ++ [[]]).length : Int) := by omega
            have hrow3 := (v3b.2.2.1 0 hil2)
            have cn := World.ownsRow.cellAt v3b.2.1 0 (by omega)
            rw [show vs2[0]? = some (vs2.getD 0 undef) by rw [List.getD_eq_getElem?_getD, List.getElem?_eq_getElem (by rw [v3b.1]; exact hil2)]; rfl] at cn
            generalize hrvv : vs2.getD 0 undef = rv at *
            have HV := Lib.hid v3b
            clear v3b
            have hs23 : w2.heap.size ≤ w3b.heap.size := hbx3.size
            have hlr : (rowOf (part (rowOf g 0).length p c ++ [[]]) 0).length ≤ 1048576 := by rw [HRW.out]; decide
            go_wp2_with (at_builtin; refine wpList_push hrow3.1 hlr hs23 (h := ?_))
            intro rv2 w4 o4 g4 m4
            rcases id o4.2 with ⟨_, hz⟩ | ⟨g2, cap2, cur2, rfl, _⟩
            · exact absurd hz (by simp)
            have hV := HV.out
            rw [← hrvv] at g4 m4
            have hb4 : Below w2.heap.size w2 w4 := hbx3.trans (below_grown g4 hs23 (fun k hk => (hV.lt.2 0 hil2 k hk).1))
            have hps := OwnTV.pushRow hV rfl 0 hil2 _ _ g4 o4 m4
            have hown4 := World.ownsRow.kept hV.2.1 g4 (hV.2.2.1 0 hil2).2.symm
            have cd : w4.cell? ⟨gn, 0, none⟩ = some rv := by
              rw [World.ownsRow.cellAt hown4 0 (by omega), List.getElem?_eq_getElem (by rw [hV.1]; exact hil2), ← hrvv, List.getD_eq_getElem?_getD, List.getElem?_eq_getElem (by rw [hV.1]; exact hil2)]; rfl
            have fd : w4.frozen? ⟨gn, 0, none⟩ = false := hown4.frozenAt 0
            have HP := Lib.hid hps
            have hc' : okTo g u (p + 1) (upd c p (cellOf g 0 0 / u + d)) := by
              intro q hq
              unfold upd
              by_cases e : q = p
              · subst e
                rw [if_pos rfl]
                have hup := UP.out
                have hce := HCE.out
                by_cases hi : incF g u q = true
                · rw [if_pos hi] at hup
                  by_cases hd0 : d = 0
                  · exact .inl (by omega)
                  · exact .inr ⟨hi, by omega⟩
                · rw [if_neg hi] at hup
                  exact .inl (by omega)
              · rw [if_neg e]
                exact hok q (by omega)
            have HC' := Lib.hid hc'
            clear cn hps hV hown4 hc'
            have hT : OwnT (w4.setCell ⟨gn, 0, none⟩ (.slice (some ⟨g2, 0, none⟩) (rowOf (part (rowOf g 0).length p c ++ [[]]) 0 ++ [cellOf g 0 0 / u + d]).length cap2)) w2.heap.size (.slice (some ⟨gn, 0, none⟩) (part (rowOf g 0).length p c ++ [[]]).length capn) (part (rowOf g 0).length (p + 1) (upd c p (cellOf g 0 0 / u + d))) := by
              rw [part_upd]
              unfold pushC
              rw [HK1.out, if_pos rfl]
              have h := HP.out.1.table
              rw [snoc_set HIO.out] at h
              rw [List.length_append, List.length_append] at h ⊢
              exact h
            have hbS : Below w2.heap.size w2 (w4.setCell ⟨gn, 0, none⟩ (.slice (some ⟨g2, 0, none⟩) (rowOf (part (rowOf g 0).length p c ++ [[]]) 0 ++ [cellOf g 0 0 / u + d]).length cap2)) := hb4.trans (below_grown HP.out.2 hb4.size (fun k hk => by cases hk; exact (HV.out.lt.1 gn rfl).1))
            have hIH : Calls Try.prog 79 #[.slice (some ⟨b, off, none⟩) g.length cap, .int .i64 u, .slice (some ⟨gn, 0, none⟩) (part (rowOf g 0).length p c ++ [[]]).length capn, .int .i64 ((p : Int) + 1)] (w4.setCell ⟨gn, 0, none⟩ (.slice (some ⟨g2, 0, none⟩) (rowOf (part (rowOf g 0).length p c ++ [[]]) 0 ++ [cellOf g 0 0 / u + d]).length cap2)) (FromOut (w4.setCell ⟨gn, 0, none⟩ (.slice (some ⟨g2, 0, none⟩) (rowOf (part (rowOf g 0).length p c ++ [[]]) 0 ++ [cellOf g 0 0 / u + d]).length cap2)) w2.heap.size (fromM g u (rowOf g 0).length (g.length * (rowOf g 0).length) r (pushC (rowOf g 0).length p (part (rowOf g 0).length p c) (cellOf g 0 0 / u + d))) r) := by
              have h := HI.out _ _ _ _ HC'.out (gr1.below hbS) hT hbS.size
              rw [part_upd] at h
              exact h
            simp only [List.length_append, List.length_cons, List.length_nil, Nat.zero_add] at hIH hbS
            have HIH := Lib.hid hIH
            clear hT hIH
            go_wp2_with (go_at_call 79; refine HIH.out.mono ?_)
            rintro e w6 ⟨v6, ok6, rfl, hsome, hnone, hb6⟩
            have hb7 : Below w2.heap.size w2 w6 := hbS.trans (hb6.mono hbS.size)
            have hup := UP.out
            have hce := HCE.out
            cases hR : fromM g u (rowOf g 0).length (g.length * (rowOf g 0).length) r (pushC (rowOf g 0).length p (part (rowOf g 0).length p c) (cellOf g 0 0 / u + d)) with
            | some t =>
              obtain ⟨rfl, hT6⟩ := hsome t hR
              have hRR : fromM g u (rowOf g 0).length (g.length * (rowOf g 0).length) (r + 1) (part (rowOf g 0).length p c) = some t := by
                rw [E.out]
                by_cases hd0 : d = 0
                · rw [show fF g u p = cellOf g 0 0 / u + d by omega, hR]
                · by_cases hi : incF g u p = true
                  · rw [if_pos hi] at hup
                    simp only [hn1 (by omega), if_pos hi]
                    rw [show fF g u p + 1 = cellOf g 0 0 / u + d by omega, hR]
                  · rw [if_neg hi] at hup
                    omega
              have HRR := Lib.hid hRR
              have HT6 := Lib.hid hT6
              clear hRR hT6 hR hsome hnone hup hce
              go_wp2
              go_ret2
              exact ⟨_, _, rfl, (fun t' ht => by rw [HRR.out] at ht; cases ht; exact ⟨rfl, HT6.out.base (by omega)⟩), (fun h => by rw [HRR.out] at h; cases h), hbl.trans (hb7.mono hB1)⟩
            | none =>
              obtain ⟨rfl, _⟩ := hnone hR
              have hd1 : d ≤ 1 := by
                by_cases hi : incF g u p = true
                · rw [if_pos hi] at hup; omega
                · rw [if_neg hi] at hup; omega
              have h1' : fromM g u (rowOf g 0).length (g.length * (rowOf g 0).length) r (pushC (rowOf g 0).length p (part (rowOf g 0).length p c) (fF g u p)) = none := by
                by_cases hd0 : d = 0
                · rw [show fF g u p = cellOf g 0 0 / u + d by omega]; exact hR
                · exact hn1 (by omega)
              have h2' : d + 1 = 2 → incF g u p = true ∧ fromM g u (rowOf g 0).length (g.length * (rowOf g 0).length) r (pushC (rowOf g 0).length p (part (rowOf g 0).length p c) (fF g u p + 1)) = none := by
                intro h
                by_cases hi : incF g u p = true
                · refine ⟨hi, ?_⟩
                  rw [show fF g u p + 1 = cellOf g 0 0 / u + d by omega]; exact hR
                · rw [if_neg hi] at hup; omega
              have H1' := Lib.hid h1'
              have H2' := Lib.hid h2'
              clear h1' h2' hR hsome hnone hup hce
              go_wp2
              go_roundw
              case rel => exact ⟨d + 1, by omega, by go_num, fun _ => H1'.out, H2'.out, hbl.trans (hb7.mono hB1)⟩
              case measure => simp [intOf]; omega
      · have hR : fromM g u (rowOf g 0).length (g.length * (rowOf g 0).length) (r + 1) (part (rowOf g 0).length p c) = none := by
          rw [E.out]
          have hup := UP.out
          have hce := HCE.out
          by_cases hi : incF g u p = true
          · rw [if_pos hi] at hup
            have hd2 : d = 2 := by omega
            simp only [hn1 (by omega), (hn2 hd2).2, if_pos hi]
          · rw [if_neg hi] at hup
            simp only [hn1 (by omega), if_neg hi]
        have HR := Lib.hid hR
        clear hR
        go_wp2
        go_ret2
        exact ⟨_, _, rfl, (fun t ht => by rw [HR.out] at ht; cases ht), (fun _ => ⟨rfl, fun _ => rfl⟩), hbl⟩

  · have hil0 : i - 1 < (part (rowOf g 0).length p c).length := by have := HL.out; omega
    obtain ⟨bo, fo, aro, cro, rfl, ci, ri⟩ := (HO.out.grid).row (i - 1) hil0
    obtain ⟨b', off', arg, crg, e', cg, rg⟩ := HG.out.row (i - 1) (by omega)
    simp only [Option.some.injEq, Addr.mk.injEq, and_true] at e'
    obtain ⟨rfl, rfl⟩ := e'
    have hs1 := rowsum_tiny HT.out hil0
    have hgr := hgs.2.2 (i - 1) (by omega)
    have hs2 : SumFits (rowOf g (i - 1)) ∧ 0 ≤ tot (rowOf g (i - 1)) ∧ tot (rowOf g (i - 1)) ≤ 1000000 := by
      have hx : ∀ x ∈ rowOf g (i - 1), 0 ≤ x ∧ x ≤ 50 := by
        intro x hx
        obtain ⟨q, hq, rfl⟩ := List.getElem_of_mem hx
        have := hgr.2 q (by omega)
        simpa [cellOf, List.getD, hq] using this
      have := tot_bounds (rowOf g (i - 1)) 50 hx
      exact ⟨sumFits_of _ 50 hx (by decide) (by omega), by omega, by omega⟩
    have r1 : IsInts w (.slice aro (rowOf (part (rowOf g 0).length p c) (i - 1)).length cro) (rowOf (part (rowOf g 0).length p c) (i - 1)) := ⟨aro, cro, rfl, ri⟩
    have r2 : IsInts w (.slice arg (rowOf g (i - 1)).length crg) (rowOf g (i - 1)) := ⟨arg, crg, rfl, rg⟩
    have S1 : Hid (∀ q, Calls Try.prog 68 #[.slice aro (rowOf (part (rowOf g 0).length p c) (i - 1)).length cro] (w.drewN q) fun e w' => e = .returned (.int .i64 (tot (rowOf (part (rowOf g 0).length p c) (i - 1)))) ∧ ∃ m, w' = w.drewN m) := fun q => quiet_left (sum_spec _ _ _ (r1.below (below_drewN (Below.refl _ _) q)) hs1.2.1 hs1.1)
    have S2 : Hid (∀ q, Calls Try.prog 68 #[.slice arg (rowOf g (i - 1)).length crg] (w.drewN q) fun e w' => e = .returned (.int .i64 (tot (rowOf g (i - 1)))) ∧ ∃ m, w' = w.drewN m) := fun q => quiet_left (sum_spec _ _ _ (r2.below (below_drewN (Below.refl _ _) q)) (by omega) hs2.1)
    have N1 : Hid (∀ q, Calls Try.prog 75 #[.int .i64 (tot (rowOf (part (rowOf g 0).length p c) (i - 1))), .int .i64 (tot (rowOf g (i - 1))), .int .i64 u] (w.drewN q) fun e w' => e = .returned (.bool true) ∧ ∃ m, w' = w.drewN m) := fun q => by rw [← hnb]; exact quiet_left (near_spec _ _ _ _ hs2.2 hu)
    have i1 : 1 ≤ (i : Int) := by omega
    have i4 : (i : Int) - 1 < (g.length : Int) := by omega
    have i5 : (i : Int) - 1 < ((part (rowOf g 0).length p c).length : Int) := by omega
    have i6 : ((i : Int) - 1).toNat = i - 1 := by omega
    have i7 : (0 : Int) < (i : Int) := by omega
    clear ri rg r1 r2 hs1 hs2 hgr hnb
    go_enter Try.func79, Try.ntmps79
    go_wp2
    go_quiet ((first | (go_at_call 68; first | with_reducible exact S1.out _ | with_reducible exact S2.out _) | (go_at_call 75; with_reducible exact N1.out _)))
    have hb0 := below_drewN (Below.refl w.heap.size w) nq
    generalize w.drewN nq = w1 at *
    obtain ⟨cg1, ck1⟩ := GC.out w1 hb0
    simp only [Nat.add_zero] at ck1
    go_wp2
    go_loopw [13] (fun x wr => ∃ d : Nat, d ≤ 2 ∧ x = .int .i64 (cellOf g i 0 / u + d) ∧ (1 ≤ d → fromM g u (rowOf g 0).length (g.length * (rowOf g 0).length) r (pushC (rowOf g 0).length p (part (rowOf g 0).length p c) (fF g u p)) = none) ∧ (d = 2 → incF g u p = true ∧ fromM g u (rowOf g 0).length (g.length * (rowOf g 0).length) r (pushC (rowOf g 0).length p (part (rowOf g 0).length p c) (fF g u p + 1)) = none) ∧ Below w.heap.size w wr) (fun x _ => (cellOf g i 0 / u + 2 - intOf x).toNat)
    case atStart => exact ⟨0, by decide, by simp, fun h => absurd h (by decide), fun h => absurd h (by decide), hb0⟩
    case round =>
      obtain ⟨d, hd, rfl, hn1, hn2, hbl⟩ := hrel
      rename World => w2
      obtain ⟨cg, ck⟩ := GC.out w2 hbl
      simp only [Nat.add_zero] at ck
      have gr1 := HG.out.below hbl
      have ho1 := HO.out.below hbl
      have hB1 : w.heap.size ≤ w2.heap.size := hbl.size
      by_cases hx : cellOf g i 0 / u + (d : Int) ≤ (cellOf g i 0 + u - 1) / u
      · go_wp2
        go_loopw [14, 15] (fun nv j wx => ∃ q : Nat, q ≤ (part (rowOf g 0).length p c).length ∧ j = .int .i64 q ∧ (∃ vs, OwnTV wx w2.heap.size nv vs ((part (rowOf g 0).length p c).take q)) ∧ Below w2.heap.size w2 wx) (fun _ j _ => (part (rowOf g 0).length p c).length - (intOf j).toNat)
        case atStart => exact ⟨0, Nat.zero_le _, rfl, ⟨[], by simpa using ownTV_empty w2 _ (Nat.le_refl _)⟩, (Below.refl _ _).alloc (Nat.le_refl _) _⟩
        case round =>
          obtain ⟨q, hq, rfl, ⟨vs, hvs⟩, hbx⟩ := hrel
          rename World => w3
          by_cases hqx : q < (part (rowOf g 0).length p c).length
          · have qx : (q : Int) < ((part (rowOf g 0).length p c).length : Int) := by omega
            obtain ⟨bp, fp, aro, cro, ep, ci, ri⟩ := (ho1.grid).row q hqx
            simp only [Option.some.injEq, Addr.mk.injEq, and_true] at ep
            obtain ⟨rfl, rfl⟩ := ep
            have r2 : IsInts w2 (.slice aro (rowOf (part (rowOf g 0).length p c) q).length cro) (rowOf (part (rowOf g 0).length p c) q) := ⟨aro, cro, rfl, ri⟩
            have hli := (HT.out.2 q hqx).1
            have hq3 : q ≤ 3 := by have := HT.out.1; omega
            have hba : Below w3.heap.size w3 (w3.alloc (.cells #[] 3)) := (Below.refl _ _).alloc (Nat.le_refl _) _
            have hs3 : w2.heap.size ≤ w3.heap.size := hbx.size
            have r3 := r2.below (hbx.trans (hba.mono hs3))
            have c3 := (hbx.cell (p := ⟨bo, fo + q, none⟩) (World.block_lt_of_cell? w2 _ ci)).trans ci
            have cx := (hba.cell (p := ⟨bo, fo + q, none⟩) (World.block_lt_of_cell? w3 _ c3)).trans c3
            have oe := own_empty w3 w3.heap.size (Nat.le_refl _)
            have hsz : w3.heap.size ≤ (w3.alloc (.cells #[] 3)).heap.size := hba.size
            clear ri r2 ci c3
            go_wp2_with (at_builtin; refine wpList_spread oe r3 hli.1 (by simp; omega) hsz (h := ?_))
            intro rv w4 o4 g4 m4
            rcases id o4.2 with ⟨_, hz⟩ | ⟨gr, capr, cur, rfl, _⟩
            · exact absurd hz (by omega)
            have hb4 : Below w3.heap.size w3 w4 := hba.trans (below_grown g4 hsz (fun k hk => by simp [Value.ownBlock] at hk; omega))
            have hs4 : w3.heap.size ≤ w4.heap.size := hb4.size
            have v4 := hvs.below hb4
            have vlt := hvs.lt
            have hlt4 : ((part (rowOf g 0).length p c).take q).length ≤ 1048576 := by have := HT.out.1; rw [List.length_take]; omega
            have hap : apartB (.slice (some ⟨gr, 0, none⟩) (rowOf (part (rowOf g 0).length p c) q).length capr) u14 := (apartB_of (fun k hk => (vlt.1 k hk).2) (fun k hk => (o4.lt k hk).1)).symm
            have hrs : ∀ j, j < ((part (rowOf g 0).length p c).take q).length → apartB (vs.getD j undef) (.slice (some ⟨gr, 0, none⟩) (rowOf (part (rowOf g 0).length p c) q).length capr) := fun j hj => apartB_of (fun k hk => (vlt.2 j hj k hk).2) (fun k hk => (o4.lt k hk).1)
            have hs24 : w2.heap.size ≤ w4.heap.size := by omega
            go_wp2_with (at_builtin; refine wpList_pushT v4 (o4.base hs3) hap hrs rfl hlt4 hs24 (h := ?_))
            intro nv w5 v5 g5 m5
            rw [← take_row hqx] at v5
            have hb5 : Below w2.heap.size w2 w5 := (hbx.trans (hb4.mono hs3)).trans (below_grown g5 hs24 (fun k hk => (vlt.1 k hk).1))
            have V5 := Lib.hid v5
            clear v5 v4 vlt hrs hap o4 g4 m4 g5 m5 oe cx r3
            go_wp2
            go_roundw
            case rel => exact ⟨q + 1, by omega, by go_num, ⟨_, V5.out⟩, hb5⟩
            case measure => simp [intOf]; omega
          · have hqe : q = (part (rowOf g 0).length p c).length := by omega
            subst hqe
            rw [List.take_length] at hvs
            have HIO : Hid (i = (part (rowOf g 0).length p c).length) := by show i = _; rw [HL.out]; rfl
            have hba : Below w3.heap.size w3 (w3.alloc (.cells #[] 3)) := (Below.refl _ _).alloc (Nat.le_refl _) _
            have v0 := hvs.below hba
            have oe := own_empty w3 w3.heap.size (Nat.le_refl _)
            have vlt0 := hvs.lt
            have hs23a : w2.heap.size ≤ w3.heap.size := hbx.size
            have hs0 : w2.heap.size ≤ (w3.alloc (.cells #[] 3)).heap.size := Nat.le_trans hs23a hba.size
            have hap0 : apartB (sl w3.heap.size 0 0) u14 := (apartB_of (fun k hk => (vlt0.1 k hk).2) (fun k hk => (oe.lt k hk).1)).symm
            have hrs0 : ∀ j, j < (part (rowOf g 0).length p c).length → apartB (vs.getD j undef) (sl w3.heap.size 0 0) := fun j hj => apartB_of (fun k hk => (vlt0.2 j hj k hk).2) (fun k hk => (oe.lt k hk).1)
            have hl0 : (part (rowOf g 0).length p c).length ≤ 1048576 := by have := HT.out.1; omega
            go_wp2_with (at_builtin; refine wpList_pushT v0 (oe.base hs23a) hap0 hrs0 rfl hl0 hs0 (hx := by rw [show (w3.alloc (.cells #[] 3)).heap.size = w3.heap.size + 1 by simp]; rfl) (h := ?_))
            intro nv0 w3b v3b g3b m3b
            have hbx3 : Below w2.heap.size w2 w3b := (hbx.trans (hba.mono hs23a)).trans (below_grown g3b hs0 (fun k hk => (vlt0.1 k hk).1))
            generalize vs ++ [sl w3.heap.size 0 0] = vs2 at v3b
            have hil2 : i < (part (rowOf g 0).length p c ++ [[]]).length := by rw [List.length_append, ← HIO.out]; exact Nat.lt_succ_self _
            have HRW : Hid (rowOf (part (rowOf g 0).length p c ++ [[]]) i = []) := by
              have h := @rowOf_snoc_eq (part (rowOf g 0).length p c) []
              rwa [← HIO.out] at h
            clear g3b m3b v0 oe vlt0 hap0 hrs0
            rcases id v3b.2.1.2 with ⟨_, hz⟩ | ⟨gn, capn, curn, rfl, _⟩
            · exact absurd hz (by omega)
            have ilx : (i : Int) < ((part (rowOf g 0).length p c ++ [[]]).length : Int) := by omega
            have hrow3 := (v3b.2.2.1 i hil2)
            have cn := World.ownsRow.cellAt v3b.2.1 i (by omega)
            rw [show vs2[i]? = some (vs2.getD i undef) by rw [List.getD_eq_getElem?_getD, List.getElem?_eq_getElem (by rw [v3b.1]; exact hil2)]; rfl] at cn
            generalize hrvv : vs2.getD i undef = rv at *
            have HV := Lib.hid v3b
            clear v3b
            have hs23 : w2.heap.size ≤ w3b.heap.size := hbx3.size
            have hlr : (rowOf (part (rowOf g 0).length p c ++ [[]]) i).length ≤ 1048576 := by rw [HRW.out]; decide
            go_wp2_with (at_builtin; refine wpList_push hrow3.1 hlr hs23 (h := ?_))
            intro rv2 w4 o4 g4 m4
            rcases id o4.2 with ⟨_, hz⟩ | ⟨g2, cap2, cur2, rfl, _⟩
            · exact absurd hz (by simp)
            have hV := HV.out
            rw [← hrvv] at g4 m4
            have hb4 : Below w2.heap.size w2 w4 := hbx3.trans (below_grown g4 hs23 (fun k hk => (hV.lt.2 i hil2 k hk).1))
            have hps := OwnTV.pushRow hV rfl i hil2 _ _ g4 o4 m4
            have hown4 := World.ownsRow.kept hV.2.1 g4 (hV.2.2.1 i hil2).2.symm
            have cd : w4.cell? ⟨gn, i, none⟩ = some rv := by
              rw [World.ownsRow.cellAt hown4 i (by omega), List.getElem?_eq_getElem (by rw [hV.1]; exact hil2), ← hrvv, List.getD_eq_getElem?_getD, List.getElem?_eq_getElem (by rw [hV.1]; exact hil2)]; rfl
            have fd : w4.frozen? ⟨gn, i, none⟩ = false := hown4.frozenAt i
            have HP := Lib.hid hps
            have hc' : okTo g u (p + 1) (upd c p (cellOf g i 0 / u + d)) := by
              intro q hq
              unfold upd
              by_cases e : q = p
              · subst e
                rw [if_pos rfl]
                have hup := UP.out
                have hce := HCE.out
                by_cases hi : incF g u q = true
                · rw [if_pos hi] at hup
                  by_cases hd0 : d = 0
                  · exact .inl (by omega)
                  · exact .inr ⟨hi, by omega⟩
                · rw [if_neg hi] at hup
                  exact .inl (by omega)
              · rw [if_neg e]
                exact hok q (by omega)
            have HC' := Lib.hid hc'
            clear cn hps hV hown4 hc'
            have hT : OwnT (w4.setCell ⟨gn, i, none⟩ (.slice (some ⟨g2, 0, none⟩) (rowOf (part (rowOf g 0).length p c ++ [[]]) i ++ [cellOf g i 0 / u + d]).length cap2)) w2.heap.size (.slice (some ⟨gn, 0, none⟩) (part (rowOf g 0).length p c ++ [[]]).length capn) (part (rowOf g 0).length (p + 1) (upd c p (cellOf g i 0 / u + d))) := by
              rw [part_upd]
              unfold pushC
              rw [HK1.out, if_pos rfl]
              have h := HP.out.1.table
              rw [snoc_set HIO.out] at h
              rw [List.length_append, List.length_append] at h ⊢
              exact h
            have hbS : Below w2.heap.size w2 (w4.setCell ⟨gn, i, none⟩ (.slice (some ⟨g2, 0, none⟩) (rowOf (part (rowOf g 0).length p c ++ [[]]) i ++ [cellOf g i 0 / u + d]).length cap2)) := hb4.trans (below_grown HP.out.2 hb4.size (fun k hk => by cases hk; exact (HV.out.lt.1 gn rfl).1))
            have hIH : Calls Try.prog 79 #[.slice (some ⟨b, off, none⟩) g.length cap, .int .i64 u, .slice (some ⟨gn, 0, none⟩) (part (rowOf g 0).length p c ++ [[]]).length capn, .int .i64 ((p : Int) + 1)] (w4.setCell ⟨gn, i, none⟩ (.slice (some ⟨g2, 0, none⟩) (rowOf (part (rowOf g 0).length p c ++ [[]]) i ++ [cellOf g i 0 / u + d]).length cap2)) (FromOut (w4.setCell ⟨gn, i, none⟩ (.slice (some ⟨g2, 0, none⟩) (rowOf (part (rowOf g 0).length p c ++ [[]]) i ++ [cellOf g i 0 / u + d]).length cap2)) w2.heap.size (fromM g u (rowOf g 0).length (g.length * (rowOf g 0).length) r (pushC (rowOf g 0).length p (part (rowOf g 0).length p c) (cellOf g i 0 / u + d))) r) := by
              have h := HI.out _ _ _ _ HC'.out (gr1.below hbS) hT hbS.size
              rw [part_upd] at h
              exact h
            simp only [List.length_append, List.length_cons, List.length_nil, Nat.zero_add] at hIH hbS
            have HIH := Lib.hid hIH
            clear hT hIH
            go_wp2_with (go_at_call 79; refine HIH.out.mono ?_)
            rintro e w6 ⟨v6, ok6, rfl, hsome, hnone, hb6⟩
            have hb7 : Below w2.heap.size w2 w6 := hbS.trans (hb6.mono hbS.size)
            have hup := UP.out
            have hce := HCE.out
            cases hR : fromM g u (rowOf g 0).length (g.length * (rowOf g 0).length) r (pushC (rowOf g 0).length p (part (rowOf g 0).length p c) (cellOf g i 0 / u + d)) with
            | some t =>
              obtain ⟨rfl, hT6⟩ := hsome t hR
              have hRR : fromM g u (rowOf g 0).length (g.length * (rowOf g 0).length) (r + 1) (part (rowOf g 0).length p c) = some t := by
                rw [E.out]
                by_cases hd0 : d = 0
                · rw [show fF g u p = cellOf g i 0 / u + d by omega, hR]
                · by_cases hi : incF g u p = true
                  · rw [if_pos hi] at hup
                    simp only [hn1 (by omega), if_pos hi]
                    rw [show fF g u p + 1 = cellOf g i 0 / u + d by omega, hR]
                  · rw [if_neg hi] at hup
                    omega
              have HRR := Lib.hid hRR
              have HT6 := Lib.hid hT6
              clear hRR hT6 hR hsome hnone hup hce
              go_wp2
              go_ret2
              exact ⟨_, _, rfl, (fun t' ht => by rw [HRR.out] at ht; cases ht; exact ⟨rfl, HT6.out.base (by omega)⟩), (fun h => by rw [HRR.out] at h; cases h), hbl.trans (hb7.mono hB1)⟩
            | none =>
              obtain ⟨rfl, _⟩ := hnone hR
              have hd1 : d ≤ 1 := by
                by_cases hi : incF g u p = true
                · rw [if_pos hi] at hup; omega
                · rw [if_neg hi] at hup; omega
              have h1' : fromM g u (rowOf g 0).length (g.length * (rowOf g 0).length) r (pushC (rowOf g 0).length p (part (rowOf g 0).length p c) (fF g u p)) = none := by
                by_cases hd0 : d = 0
                · rw [show fF g u p = cellOf g i 0 / u + d by omega]; exact hR
                · exact hn1 (by omega)
              have h2' : d + 1 = 2 → incF g u p = true ∧ fromM g u (rowOf g 0).length (g.length * (rowOf g 0).length) r (pushC (rowOf g 0).length p (part (rowOf g 0).length p c) (fF g u p + 1)) = none := by
                intro h
                by_cases hi : incF g u p = true
                · refine ⟨hi, ?_⟩
                  rw [show fF g u p + 1 = cellOf g i 0 / u + d by omega]; exact hR
                · rw [if_neg hi] at hup; omega
              have H1' := Lib.hid h1'
              have H2' := Lib.hid h2'
              clear h1' h2' hR hsome hnone hup hce
              go_wp2
              go_roundw
              case rel => exact ⟨d + 1, by omega, by go_num, fun _ => H1'.out, H2'.out, hbl.trans (hb7.mono hB1)⟩
              case measure => simp [intOf]; omega
      · have hR : fromM g u (rowOf g 0).length (g.length * (rowOf g 0).length) (r + 1) (part (rowOf g 0).length p c) = none := by
          rw [E.out]
          have hup := UP.out
          have hce := HCE.out
          by_cases hi : incF g u p = true
          · rw [if_pos hi] at hup
            have hd2 : d = 2 := by omega
            simp only [hn1 (by omega), (hn2 hd2).2, if_pos hi]
          · rw [if_neg hi] at hup
            simp only [hn1 (by omega), if_neg hi]
        have HR := Lib.hid hR
        clear hR
        go_wp2
        go_ret2
        exact ⟨_, _, rfl, (fun t ht => by rw [HR.out] at ht; cases ht), (fun _ => ⟨rfl, fun _ => rfl⟩), hbl⟩

end

end Go.Proofs.Ytlibfmbbchhjeaa
