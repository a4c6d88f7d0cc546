/- Debts netted, in the model. -/
import Derived.Test.YtbedjebnllimpaaCircS
import Derived.Test.YtbedjebnllimpaaTakeI
import Derived.Test.YtbedjebnllimpaaFirstI
import Derived.StillTailTactics
import Derived.Deep.LoopGhost
import Derived.BigQuiet
namespace Go.Proofs.Ytbedjebnllimpaa
open Go.RowKit

/-- The least debt, as the model looks for it: the last one, then the others. -/
def mnS (g : List (List Int)) (c : List Nat) : Nat → Int
  | 0 => edgeC g c (c.length - 1)
  | k + 1 => if edgeC g c k < mnS g c k then edgeC g c k else mnS g c k

theorem mnS_le (g : List (List Int)) (c : List Nat) : ∀ k, mnS g c k ≤ edgeC g c (c.length - 1) ∧ (∀ i, i < k → mnS g c k ≤ edgeC g c i) ∧ (mnS g c k = edgeC g c (c.length - 1) ∨ ∃ i, i < k ∧ mnS g c k = edgeC g c i)
  | 0 => ⟨Int.le_refl _, fun i hi => absurd hi (Nat.not_lt_zero _), .inl rfl⟩
  | k + 1 => by
    obtain ⟨h1, h2, h3⟩ := mnS_le g c k
    rw [mnS]
    by_cases e : edgeC g c k < mnS g c k
    · rw [if_pos e]
      refine ⟨by omega, fun i hi => ?_, .inr ⟨k, by omega, rfl⟩⟩
      by_cases e2 : i = k
      · subst e2; exact Int.le_refl _
      · have := h2 i (by omega); omega
    · rw [if_neg e]
      refine ⟨h1, fun i hi => ?_, ?_⟩
      · by_cases e2 : i = k
        · subst e2; omega
        · exact h2 i (by omega)
      · rcases h3 with h3 | ⟨i, hi, h3⟩
        · exact .inl h3
        · exact .inr ⟨i, by omega, h3⟩

theorem mnS_end {g : List (List Int)} {c : List Nat} (hv : vDebts g = true) (h : GoodC g c) (hc : closes g c = true) : mnS g c (c.length - 1) = minE g c c.length := by
  obtain ⟨hl, _⟩ := closes_iff.1 hc
  obtain ⟨_, _, l3, i, hi, l4⟩ := least_facts hv h hc
  obtain ⟨h1, h2, h3⟩ := mnS_le g c (c.length - 1)
  have e1 : mnS g c (c.length - 1) ≤ minE g c c.length := by
    rw [l4]
    by_cases e : i = c.length - 1
    · subst e; exact h1
    · exact h2 i (by omega)
  have e2 : minE g c c.length ≤ mnS g c (c.length - 1) := by
    rcases h3 with h3 | ⟨j, hj, h3⟩
    · rw [h3]; exact l3 _ (by omega)
    · rw [h3]; exact l3 _ (by omega)
  omega

theorem edge_in {g : List (List Int)} {c : List Nat} (hl : 1 < c.length) {k : Nat} (hk : k + 1 < c.length) : edgeC g c k = cellOf g (c.getD k 0) (c.getD (k + 1) 0) := by unfold edgeC; rw [nxC_lt hl hk]
theorem edge_last {g : List (List Int)} {c : List Nat} (hl : 1 < c.length) : edgeC g c (c.length - 1) = cellOf g (c.getD (c.length - 1) 0) (c.getD 0 0) := by unfold edgeC; rw [nxC_last hl]

theorem take_rowN {o : List (List Int)} {q : Nat} (h : q < o.length) : o.take (q + 1) = o.take q ++ [rowOf o q] := by
  rw [List.take_add_one, List.getElem?_eq_getElem h]
  simp [rowOf, List.getD, h]

theorem OwnTV.drewN {w : World} {B : Nat} {v : Value} {vs : List Value} {o : List (List Int)} (h : OwnTV w B v vs o) (q : Nat) : OwnTV (w.drewN q) B v vs o := h.below (below_drewN (Below.refl _ _) q)

/-- The cell with the value of a row. -/
theorem rowv_cell {w : World} {B gt n cap : Nat} {vs : List Value} {o : List (List Int)} (h : OwnTV w B (.slice (some ⟨gt, 0, none⟩) n cap) vs o) (hn : o.length = n) {i : Nat} (hi : i < n) (hr : (rowOf o i).length = n) : w.cell? ⟨gt, i, none⟩ = some (.slice (some ⟨rbOf vs i, 0, none⟩) n (cpOf vs i)) := by
  subst hn
  have hf := row_form h hi (by omega)
  have h' : w.ownsRow B 28 1 (.slice (some ⟨gt, 0, none⟩) o.length cap) o.length vs := h.2.1
  have hcel : w.cell? ⟨gt, i, none⟩ = some (vs.getD i undef) := by
    rw [World.ownsRow.cellAt h' i (by omega)]
    simp [List.getD, show i < vs.length by rw [h.1]; exact hi]
  rw [hr] at hf
  rw [hf] at hcel
  exact hcel

/-- The cell with a number of a row. -/
theorem num_cell {w : World} {B : Nat} {v : Value} {vs : List Value} {o : List (List Int)} (h : OwnTV w B v vs o) {i j : Nat} (hi : i < o.length) (hj : j < (rowOf o i).length) : w.cell? ⟨rbOf vs i, j, none⟩ = some (.int .i64 (cellOf o i j)) := (h.setCell hi hj 0).2.2.1

theorem own_oneS (w : World) (B : Nat) (a : Nat) (hb : B ≤ w.heap.size) : Own (w.alloc (.cells #[.int .i64 (a : Int)] 3)) B (sl w.heap.size 1 1) (ti [a]) :=
  ⟨rfl, .inr ⟨w.heap.size, 1, #[.int .i64 (a : Int)], rfl, hb, heap_alloc_new _ _, Nat.le_refl _, by decide, rfl, rfl⟩⟩

theorem fcS_first {g : List (List Int)} {c : List Nat} {i : Nat} (hc : circF g 100 [i] = some c) : ∀ r a, (∀ b, a ≤ b → b < i → circF g 100 [b] = none) → a ≤ i → i < a + r → fcS g r a = some c
  | 0, a, _, h1, h2 => by omega
  | r + 1, a, hno, h1, h2 => by
    by_cases e : a = i
    · subst e; exact fcS_take r a hc
    · rw [fcS_skip r a (hno a (Nat.le_refl _) (by omega))]
      exact fcS_first hc r (a + 1) (fun b hb1 hb2 => hno b (by omega) hb2) (by omega) (by omega)

set_option maxRecDepth 100000 in
set_option maxHeartbeats 12800000 in
theorem NetDebts_spec (v : Value) (g : List (List Int)) (w : World) (hv : IsGrid w v g) (hl : g.length ≤ 9223372036854775807) (hr : ∀ i, i < g.length → (rowOf g i).length ≤ 9223372036854775807) :
    Calls Try.prog 31 #[v] w fun e w' => ∃ v', e = .returned v' ∧ OwnT w' w.heap.size v' (netL g) ∧ Below w.heap.size w w' := by
  have H := Lib.hid (validDebts_spec v g w hv hl hr)
  cases hd : vDebts g
  · have E : Hid (netL g = []) := by show netL g = []; rw [netL, hd]; rfl
    have h := H.out
    rw [hd] at h
    have H2 := Lib.hid h
    obtain ⟨a, cap, rfl, _⟩ := hv
    clear h hd
    go_enter Try.func31, Try.ntmps31
    go_wp2_with fail
    refine H2.out.mono ?_
    rintro e w' ⟨rfl, rfl⟩
    go_wp2
    go_ret
    exact ⟨_, rfl, by rw [E.out]; exact ⟨[], rfl, World.ownsRow_nil w _ _ 1, fun _ hi => absurd hi (Nat.not_lt_zero _), fun _ _ hi => absurd hi (Nat.not_lt_zero _)⟩, Below.refl _ _⟩
  · have E : Hid (netL g = netF 2000 g) := by show netL g = netF 2000 g; rw [netL, if_pos hd]
    have h := H.out
    rw [hd] at h
    have H2 := Lib.hid h
    have HD := Lib.hid hd
    have hn := ((vDebts_iff g).1 hd).1
    have HRL : Hid (∀ i, i < g.length → (rowOf g i).length = g.length) := fun i hi => vDebts_sq HD.out i hi
    have n6 : g.length ≤ 6 := hn.2
    have n1 : 1 ≤ g.length := hn.1
    clear h hd hn
    obtain ⟨a, cap, rfl, _⟩ := id hv
    have HV := Lib.hid hv
    clear hv
    go_enter Try.func31, Try.ntmps31
    go_wp2_with fail
    refine H2.out.mono ?_
    rintro e w' ⟨rfl, rfl⟩
    go_wp2
    go_loopw [3, 4] (fun tv s wr => ∃ i : Nat, i ≤ g.length ∧ s = .int .i64 i ∧ (∃ vs, OwnTV wr w.heap.size tv vs (g.take i)) ∧ Below w.heap.size w wr) (fun _ s _ => g.length - (intOf s).toNat)
    case atStart => exact ⟨0, Nat.zero_le _, rfl, ⟨[], by simpa using ownTV_empty w _ (Nat.le_refl _)⟩, (Below.refl _ _).alloc (Nat.le_refl _) _⟩
    case round =>
      obtain ⟨i, hi, rfl, ⟨vs, hvs⟩, hbl⟩ := hrel
      rename World => w3
      by_cases hlt : i < g.length
      · have i1 : (i : Int) < (g.length : Int) := by omega
        obtain ⟨bo, fo, aro, cro, rfl, ci, ri⟩ := HV.out.row i hlt
        have r2 : IsInts w (.slice aro (rowOf g i).length cro) (rowOf g i) := ⟨aro, cro, rfl, ri⟩
        have hba : Below w3.heap.size w3 (w3.alloc (.cells #[] 3)) := (Below.refl _ _).alloc (Nat.le_refl _) _
        have hs3 : w.heap.size ≤ w3.heap.size := hbl.size
        have r3 := r2.below (hbl.trans (hba.mono hs3))
        have c3 := (hbl.cell (p := ⟨bo, fo + i, none⟩) (World.block_lt_of_cell? w _ ci)).trans ci
        have cx := (hba.cell (p := ⟨bo, fo + i, none⟩) (World.block_lt_of_cell? w3 _ c3)).trans c3
        have oe := own_empty w3 w3.heap.size (Nat.le_refl _)
        have hsz : w3.heap.size ≤ (w3.alloc (.cells #[] 3)).heap.size := hba.size
        have hlp : 0 < (rowOf g i).length := by rw [HRL.out i hlt]; omega
        have hls : (rowOf g i).length ≤ 1000 := by rw [HRL.out i hlt]; omega
        clear ri r2 ci c3
        go_wp2_with (at_builtin; refine wpList_spread oe r3 hlp (by simp; omega) hsz (h := ?_))
        intro rv w4 o4 g4 m4
        rcases id o4.2 with ⟨_, hz⟩ | ⟨gr, capr, cur, rfl, _⟩
        · exact absurd hz (by simp; omega)
        have hb4 : Below w3.heap.size w3 w4 := hba.trans (below_grown g4 hsz (fun k hk => by simp [Value.ownBlock] at hk; omega))
        have hs4 : w3.heap.size ≤ w4.heap.size := hb4.size
        have v4 := hvs.below hb4
        have vlt := hvs.lt
        have hlt4 : (g.take i).length ≤ 1048576 := by rw [List.length_take]; omega
        have o5 : Own w4 w3.heap.size (.slice (some ⟨gr, 0, none⟩) (([] : List Int) ++ rowOf g i).length capr) (rowOf g i) := o4
        have hap : apartB (.slice (some ⟨gr, 0, none⟩) (([] : List Int) ++ rowOf g i).length capr) u3 := (apartB_of (fun k hk => (vlt.1 k hk).2) (fun k hk => (o5.lt k hk).1)).symm
        have hrs : ∀ j, j < (g.take i).length → apartB (vs.getD j undef) (.slice (some ⟨gr, 0, none⟩) (([] : List Int) ++ rowOf g i).length capr) := fun j hj => apartB_of (fun k hk => (vlt.2 j hj k hk).2) (fun k hk => (o5.lt k hk).1)
        have hs24 : w.heap.size ≤ w4.heap.size := by omega
        go_wp2_with (at_builtin; refine wpList_pushT v4 (o5.base hs3) hap hrs rfl hlt4 hs24 (h := ?_))
        intro nv w5 v5 g5 m5
        rw [← take_rowN hlt] at v5
        have hb5 : Below w.heap.size w w5 := (hbl.trans (hb4.mono hs3)).trans (below_grown g5 hs24 (fun k hk => (vlt.1 k hk).1))
        have V5 := Lib.hid v5
        clear v5 v4 vlt hrs hap o4 o5 g4 m4 g5 m5 oe cx r3
        go_wp2
        go_roundw
        case rel => exact ⟨i + 1, by omega, by go_num, ⟨_, V5.out⟩, hb5⟩
        case measure => simp [intOf]; omega
      · have hie : i = g.length := by omega
        subst hie
        rw [List.take_length] at hvs
        rcases id hvs.2.1.2 with ⟨_, hz⟩ | ⟨gt, capt, cur, rfl, hgt, _⟩
        · omega
        have hs0 := (sumG_bounds HD.out).2
        have hsp := (sumG_bounds HD.out).1
        go_wp2
        go_loopg [5] 20000 (fun gh av wx => ∃ (i f : Nat) (gc : List (List Int)), i ≤ g.length ∧ av = .int .i64 i ∧ vDebts gc = true ∧ gc.length = g.length ∧ netF f gc = netF 2000 g ∧ sumG gc < f ∧ (sumG gc).toNat * 10 + (g.length - i) ≤ gh ∧ (∀ b, b < i → circF gc 100 [b] = none) ∧ OwnTV wx w.heap.size (.slice (some ⟨gt, 0, none⟩) g.length capt) vs gc ∧ Below w.heap.size w wx)
        case atStart => exact ⟨0, 2000, g, Nat.zero_le _, rfl, HD.out, rfl, rfl, by omega, by omega, fun b hb => absurd hb (Nat.not_lt_zero _), hvs, hbl⟩
        case round =>
          clear hvs hbl
          obtain ⟨i, f, gc, hi, rfl, hvd, hgl, hnf, hsm, hms, hno, hT, hbl⟩ := hrel
          rename World => wx
          have HVD := Lib.hid hvd
          have HGL := Lib.hid hgl
          have HNF := Lib.hid hnf
          have HNO := Lib.hid hno
          have HSM := Lib.hid hsm
          have HMS := Lib.hid hms
          have HTT := Lib.hid hT
          by_cases hlt2 : i < g.length
          · have i1 : (i : Int) < (g.length : Int) := by omega
            have hsx : w.heap.size ≤ wx.heap.size := hbl.size
            have hbA : Below wx.heap.size wx (wx.alloc (.cells #[.int .i64 (i : Int)] 3)) := (Below.refl _ _).alloc (Nat.le_refl _) _
            have hfr := freeN_bound [i] gc.length
            have hci := circle_spec (.slice (some ⟨gt, 0, none⟩) g.length capt) gc hvd 100 [i] (.slice (some ⟨wx.heap.size, 0, none⟩) 1 1) (wx.alloc (.cells #[.int .i64 (i : Int)] 3)) (by omega) (by simp) (by simp; omega) (fun j hj => by simp at hj; subst hj; simp; omega) (hT.table.grid.below hbA) (by have h := (own_oneS wx wx.heap.size i (Nat.le_refl _)).ints; exact h)
            have HCI := Lib.hid hci
            clear hci hfr hvd hgl hnf hno hsm hms hT
            cases hcf : circF gc 100 [i] with
            | none =>
              have h := HCI.out
              rw [hcf] at h
              have HI2 := Lib.hid h
              have HNO2 : Hid (∀ b, b < i + 1 → circF gc 100 [b] = none) := fun b hb => by
                by_cases e : b = i
                · subst e; exact hcf
                · exact HNO.out b (by omega)
              clear h hcf
              go_wp2_with fail
              refine HI2.out.mono ?_
              rintro e w2 ⟨v2, rfl, hi2, _, hb2⟩
              have hi3 : IsInts w2 v2 [] := hi2
              obtain ⟨a2, c2, e2, _⟩ := hi3
              rw [List.length_nil] at e2
              subst e2
              have hT2 := (HTT.out.below hbA).below hb2
              have hbl2 : Below w.heap.size w w2 := (hbl.trans (hbA.mono hsx)).trans (hb2.mono (Nat.le_trans hsx hbA.size))
              have HT2 := Lib.hid hT2
              obtain ⟨gO, rfl⟩ : ∃ q, gk = q + 1 := ⟨gk - 1, by have := HMS.out; omega⟩
              clear hi2 hb2 hT2
              go_wp2
              go_roundg gO
              case measure => omega
              case rel => exact ⟨i + 1, f, gc, by omega, by go_num, HVD.out, HGL.out, HNF.out, HSM.out, by have := HMS.out; omega, HNO2.out, HT2.out, hbl2⟩
            | some c =>
              have hgood := circ_good (g := gc) (a := i) (by rw [HGL.out]; exact hlt2) hcf
              have hfc : fcF gc = some c := fcS_first hcf gc.length 0 (fun b _ hb => HNO.out b hb) (Nat.zero_le _) (by rw [HGL.out]; omega)
              have hdf := down_facts HVD.out hgood.1 hgood.2
              have hlf := least_facts HVD.out hgood.1 hgood.2
              have hme := mnS_end HVD.out hgood.1 hgood.2
              have hm2 := (closes_iff.1 hgood.2).1
              have hm6 := good_short hgood.1
              rw [HGL.out] at hm6
              have hsg := sumG_bounds HVD.out
              have hsd := (sumG_bounds hdf.1).1
              obtain ⟨fO, rfl⟩ : ∃ q, f = q + 1 := ⟨f - 1, by have := HSM.out; omega⟩
              obtain ⟨gO, rfl⟩ : ∃ q, gk = q + 1 := ⟨gk - 1, by have := HMS.out; omega⟩
              have HNF2 : Hid (netF fO (downC gc c) = netF 2000 g) := by show _ = _; rw [← HNF.out, netF_step hfc]
              have HDV := Lib.hid hdf.1
              have HDL : Hid ((downC gc c).length = g.length) := by show _ = _; rw [hdf.2.1]; exact HGL.out
              have HSM2 : Hid (sumG (downC gc c) < (fO : Int)) := by show _ < _; have h1 := hdf.2.2.1; have h2 := HSM.out; omega
              have HMS2 : Hid ((sumG (downC gc c)).toNat * 10 + (g.length - i) ≤ gO) := by show _ ≤ _; have h1 := hdf.2.2.1; have h2 := HMS.out; omega
              have HNO2 : Hid (∀ b, b < i → circF (downC gc c) 100 [b] = none) := fun b hb => circF_mono hdf.2.1 (down_le HVD.out hgood.1 hgood.2) 100 [b] (HNO.out b hb)
              have HED : Hid (∀ k, k < c.length → c.getD k 0 < g.length ∧ nxC c k < g.length) := fun k hk => by
                have h1 := hgood.1.lt k hk
                have h2 := (hgood.1.edges hgood.2 hk).2.1
                rw [HGL.out] at h1 h2
                exact ⟨h1, h2⟩
              have HEI : Hid (∀ k, k + 1 < c.length → edgeC gc c k = cellOf gc (c.getD k 0) (c.getD (k + 1) 0)) := fun k hk => edge_in hm2 hk
              have HEL : Hid (mnS gc c 0 = cellOf gc (c.getD (c.length - 1) 0) (c.getD 0 0)) := edge_last hm2
              have HMN : Hid (∀ k, mnS gc c (k + 1) = if edgeC gc c k < mnS gc c k then edgeC gc c k else mnS gc c k) := fun _ => rfl
              have HME := Lib.hid hme
              have HDN : Hid (downC gc c = takeK gc c (minE gc c c.length) c.length) := rfl
              have l1 := hlf.1
              have l2 := hlf.2.1
              have HTK : Hid (∀ wy k, k < c.length → OwnTV wy w.heap.size (.slice (some ⟨gt, 0, none⟩) g.length capt) vs (takeK gc c (minE gc c c.length) k) → OwnTV (wy.setCell ⟨rbOf vs (c.getD k 0), nxC c k, none⟩ (.int .i64 (cellOf (takeK gc c (minE gc c c.length) k) (c.getD k 0) (nxC c k) - minE gc c c.length))) w.heap.size (.slice (some ⟨gt, 0, none⟩) g.length capt) vs (takeK gc c (minE gc c c.length) (k + 1)) ∧ wy.grownBy (wy.setCell ⟨rbOf vs (c.getD k 0), nxC c k, none⟩ (.int .i64 (cellOf (takeK gc c (minE gc c c.length) k) (c.getD k 0) (nxC c k) - minE gc c c.length))) (some (rbOf vs (c.getD k 0))) ∧ wy.cell? ⟨rbOf vs (c.getD k 0), nxC c k, none⟩ = some (.int .i64 (cellOf (takeK gc c (minE gc c c.length) k) (c.getD k 0) (nxC c k))) ∧ wy.frozen? ⟨rbOf vs (c.getD k 0), nxC c k, none⟩ = false ∧ w.heap.size ≤ rbOf vs (c.getD k 0) ∧ wy.cell? ⟨gt, c.getD k 0, none⟩ = some (.slice (some ⟨rbOf vs (c.getD k 0), 0, none⟩) g.length (cpOf vs (c.getD k 0)))) := fun wy k hk h => by
                have hl := takeK_len gc c (minE gc c c.length) k
                have hs := takeK_sq (vDebts_sq HVD.out) c (minE gc c c.length) k
                have he := HED.out k hk
                rw [HGL.out] at hl
                have hrl := hs (c.getD k 0) (by rw [hl]; exact he.1)
                rw [hl] at hrl
                have h2 := h.setCell (i := c.getD k 0) (j := nxC c k) (by rw [hl]; exact he.1) (by rw [hrl]; exact he.2) (cellOf (takeK gc c (minE gc c c.length) k) (c.getD k 0) (nxC c k) - minE gc c c.length)
                exact ⟨h2.1, h2.2.1, h2.2.2.1, h2.2.2.2.1, h2.2.2.2.2.1, rowv_cell h hl he.1 hrl⟩
              have HTB : Hid (∀ k, k ≤ c.length → ∀ a b, a < g.length → b < g.length → 0 ≤ cellOf (takeK gc c (minE gc c c.length) k) a b ∧ cellOf (takeK gc c (minE gc c c.length) k) a b ≤ 50) := fun k hk a b ha hb => by
                have h1 := takeK_bounds HVD.out hgood.1 hgood.2 k hk a b (by rw [HGL.out]; exact ha) (by rw [HGL.out]; exact hb)
                have h2 := (((vDebts_iff gc).1 HVD.out).2 a (by rw [HGL.out]; exact ha)).2.2 b (by rw [HGL.out]; exact hb)
                omega
              have HRB : Hid (∀ k, k < c.length → rbOf vs (c.getD k 0) < wx.heap.size) := fun k hk => by
                have he := HED.out k hk
                exact (HTT.out.setCell (i := c.getD k 0) (j := nxC c k) (by rw [HGL.out]; exact he.1) (by rw [vDebts_sq HVD.out _ (by rw [HGL.out]; exact he.1), HGL.out]; exact he.2) 0).2.2.2.2.2
              have h := HCI.out
              rw [hcf, Option.getD_some] at h
              have HI2 := Lib.hid h
              clear h hcf hgood hfc hdf hlf hme hsg hsd
              go_wp2_with fail
              refine HI2.out.mono ?_
              rintro e w2 ⟨v2, rfl, hi2, hloc, hb2⟩
              obtain ⟨ac, cc, rfl, hcc⟩ := hi2
              rw [ti_length] at hcc ⊢
              obtain ⟨bc, fc, rfl, _⟩ := hcc 0 (by omega)
              have hbc : wx.heap.size ≤ bc := by
                rcases hloc bc rfl with h | h
                · exact Nat.le_trans hbA.size h
                · cases h; exact Nat.le_refl _
              have HCC : Hid (∀ k, k < c.length → w2.cell? ⟨bc, fc + k, none⟩ = some (.int .i64 ((c.getD k 0 : Nat) : Int))) := fun k hk => by
                obtain ⟨b', f', e', h⟩ := hcc k hk
                simp only [Option.some.injEq, Addr.mk.injEq, and_true] at e'
                obtain ⟨rfl, rfl⟩ := e'
                rw [ti_getD] at h
                exact h
              have hT2 := (HTT.out.below hbA).below hb2
              have hbl2 : Below w.heap.size w w2 := (hbl.trans (hbA.mono hsx)).trans (hb2.mono (Nat.le_trans hsx hbA.size))
              have HT2 := Lib.hid hT2
              have hw2 : wx.heap.size ≤ w2.heap.size := Nat.le_trans hbA.size hb2.size
              have HROWS : Hid (∀ wy, OwnTV wy w.heap.size (.slice (some ⟨gt, 0, none⟩) g.length capt) vs gc → ∀ x y, x < g.length → y < g.length → wy.cell? ⟨gt, x, none⟩ = some (.slice (some ⟨rbOf vs x, 0, none⟩) g.length (cpOf vs x)) ∧ wy.cell? ⟨rbOf vs x, y, none⟩ = some (.int .i64 (cellOf gc x y))) := fun wy h x y hx hy => by
                have hrl := vDebts_sq HVD.out x (by rw [HGL.out]; exact hx)
                rw [HGL.out] at hrl
                exact ⟨rowv_cell h HGL.out hx hrl, num_cell h (by rw [HGL.out]; exact hx) (by rw [hrl]; exact hy)⟩
              have hx1 := (HED.out (c.length - 1) (by omega)).1
              have hy1 := (HED.out 0 (by omega)).1
              obtain ⟨r1, r2⟩ := HROWS.out w2 hT2 _ _ hx1 hy1
              have q1 := HCC.out (c.length - 1) (by omega)
              have q2 := HCC.out 0 (by omega)
              rw [Nat.add_zero] at q2
              rw [← HEL.out] at r2
              have z1 : ((c.getD (c.length - 1) 0 : Nat) : Int) < (g.length : Int) := by omega
              have z2 : ((c.getD 0 0 : Nat) : Int) < (g.length : Int) := by omega
              have z3 : 0 ≤ (c.length : Int) - 1 := by omega
              have z4 : (c.length : Int) - 1 < (c.length : Int) := by omega
              have z5 : ((c.length : Int) - 1).toNat = c.length - 1 := by omega
              have z6 : (0 : Int) < (c.length : Int) := by omega
              have z7 : ((c.length : Int) == 0) = false := beq_eq_false_iff_ne.2 (by omega)
              have HX1 := Lib.hid hx1
              clear hcc hloc hT2 hb2 hx1 hy1 HCI HI2
              generalize c.getD (c.length - 1) 0 = cl at *
              generalize c.getD 0 0 = ch at *
              generalize he0 : mnS gc c 0 = e0 at *
              have HE0 := Lib.hid he0
              clear he0
              generalize rbOf vs cl = rbl at *
              generalize cpOf vs cl = cpl at *
              go_wp2
              go_quiet (fail)
              have hdr0 : Drawn w2 (w2.drewN nq) := ⟨nq, rfl⟩
              generalize w2.drewN nq = wd at *
              clear r1 r2 q1 q2 z1 z2 z3 z4 z5 z6 z7
              go_wp2
              go_loopw [8, 9] (fun lv kv wy => ∃ k : Nat, k + 1 ≤ c.length ∧ kv = .int .i64 k ∧ lv = .int .i64 (mnS gc c k) ∧ Drawn w2 wy) (fun _ kv _ => c.length - (intOf kv).toNat)
              case atStart => exact ⟨0, by omega, rfl, by rw [HE0.out], hdr0⟩
              case round =>
                obtain ⟨k, hk, rfl, rfl, hdr⟩ := hrel
                rename World => wy
                clear hdr0
                by_cases hlk : k + 1 < c.length
                · have k1 : (k : Int) + 1 < (c.length : Int) := by omega
                  have k2 : (k : Int) < (c.length : Int) := by omega
                  have hx := (HED.out k (by omega)).1
                  have hy := (HED.out (k + 1) hlk).1
                  obtain ⟨r1, r2⟩ := HROWS.out w2 HT2.out _ _ hx hy
                  have q1 := (hdr.cell _).trans (HCC.out k (by omega))
                  have q2 := (hdr.cell _).trans (HCC.out (k + 1) hlk)
                  have r1' := (hdr.cell _).trans r1
                  have r2' := (hdr.cell _).trans r2
                  rw [← HEI.out k hlk] at r2'
                  have z1 : ((c.getD k 0 : Nat) : Int) < (g.length : Int) := by omega
                  have z2 : ((c.getD (k + 1) 0 : Nat) : Int) < (g.length : Int) := by omega
                  have hmn := HMN.out k
                  have HM := Lib.hid hmn
                  have hz5 : ((k : Int) + 1).toNat = k + 1 := by omega
                  rw [show fc + (k + 1) = fc + (k + 1) from rfl] at q2
                  clear r1 r2 hmn hx hy
                  generalize c.getD k 0 = ck at *
                  generalize c.getD (k + 1) 0 = cn at *
                  generalize edgeC gc c k = ek at *
                  generalize mnS gc c k = mk at *
                  generalize rbOf vs ck = rbk at *
                  generalize cpOf vs ck = cpk at *
                  go_wp2
                  go_quiet (fail)
                  have hdr2 := hdr.more nq
                  generalize wy.drewN nq = wz at *
                  clear q1 q2 r1' r2' hdr
                  go_wp2
                  go_roundw
                  case rel => exact ⟨k + 1, by omega, by go_num, by rw [HM.out], hdr2⟩
                  case measure => simp [intOf]; omega
                · have hke : k = c.length - 1 := by omega
                  subst hke
                  have hk5 : ¬ ((c.length - 1 : Nat) : Int) + 1 < (c.length : Int) := by omega
                  have hT5 := HT2.out.below hdr.below
                  have hbl5 : Below w.heap.size w wy := hbl2.trans (hdr.below.mono hbl2.size)
                  have HC5 : Hid (∀ k, k < c.length → wy.cell? ⟨bc, fc + k, none⟩ = some (.int .i64 ((c.getD k 0 : Nat) : Int))) := fun k hk => (hdr.cell _).trans (HCC.out k hk)
                  rw [HME.out]
                  generalize minE gc c c.length = L at *
                  have hb9 : (0 : Int) ≤ ((c.length - 1 : Nat) : Int) ∧ ((c.length - 1 : Nat) : Int) ≤ 10 := by omega
                  generalize ((c.length - 1 : Nat) : Int) = ck9 at *
                  clear hdr
                  go_wp2
                  go_loopw [10] (fun kv wz => ∃ k : Nat, k ≤ c.length ∧ kv = .int .i64 k ∧ OwnTV wz w.heap.size (.slice (some ⟨gt, 0, none⟩) g.length capt) vs (takeK gc c L k) ∧ (∀ k, k < c.length → wz.cell? ⟨bc, fc + k, none⟩ = some (.int .i64 ((c.getD k 0 : Nat) : Int))) ∧ Below w.heap.size w wz) (fun kv _ => c.length - (intOf kv).toNat)
                  case atStart => exact ⟨0, Nat.zero_le _, rfl, hT5, HC5.out, hbl5⟩
                  case round =>
                    obtain ⟨k, hk, rfl, hown, hcel, hblz⟩ := hrel
                    rename World => wz
                    have HCE := Lib.hid hcel
                    clear hcel hT5 hbl5
                    by_cases hlz : k < c.length
                    · have k1 : (k : Int) < (c.length : Int) := by omega
                      have hmod : ((k : Int) + 1) % (c.length : Int) = (((k + 1) % c.length : Nat) : Int) := by simp
                      have hml := Nat.mod_lt (k + 1) (show 0 < c.length by omega)
                      have hmne : (c.length : Int) ≠ 0 := by omega
                      have q1 := HCE.out k hlz
                      have q2 := HCE.out ((k + 1) % c.length) hml
                      have hnx : c.getD ((k + 1) % c.length) 0 = nxC c k := rfl
                      rw [hnx] at q2
                      obtain ⟨t1, t2, t3, t4, t5, t6⟩ := HTK.out wz.drew k hlz (hown.below ((Below.refl _ _).drew))
                      have hed := HED.out k hlz
                      have hbd := HTB.out k hk _ _ hed.1 hed.2
                      have z1 : ((c.getD k 0 : Nat) : Int) < (g.length : Int) := by have := hed.1; omega
                      have z2 : ((nxC c k : Nat) : Int) < (g.length : Int) := by have := hed.2; omega
                      have hrb := HRB.out k hlz
                      have hb6 : Below w.heap.size w _ := hblz.drew.trans (below_grown t2 hblz.size (fun j hj => by cases hj; exact t5))
                      have hcn : ∀ j, j < c.length → (wz.drew.setCell ⟨rbOf vs (c.getD k 0), nxC c k, none⟩ (.int .i64 (cellOf (takeK gc c L k) (c.getD k 0) (nxC c k) - L))).cell? ⟨bc, fc + j, none⟩ = some (.int .i64 ((c.getD j 0 : Nat) : Int)) := fun j hj => t2.cell (show wz.drew.cell? ⟨bc, fc + j, none⟩ = _ from HCE.out j hj) (fun e => by
                        simp only [Option.some.injEq] at e
                        omega)
                      have r3 : wz.cell? ⟨rbOf vs (c.getD k 0), nxC c k, none⟩ = some (.int .i64 (cellOf (takeK gc c L k) (c.getD k 0) (nxC c k))) := t3
                      have r6 : wz.cell? ⟨gt, c.getD k 0, none⟩ = some (.slice (some ⟨rbOf vs (c.getD k 0), 0, none⟩) g.length (cpOf vs (c.getD k 0))) := t6
                      have T1 := Lib.hid t1
                      have HB6 := Lib.hid hb6
                      have HCN := Lib.hid hcn
                      have T3 := Lib.hid t3
                      have T4 := Lib.hid t4
                      clear t1 t2 t3 t4 t5 t6 hb6 hcn hnx hed hrb hown hblz
                      generalize (k + 1) % c.length = rr at *
                      generalize cellOf (takeK gc c L k) (c.getD k 0) (nxC c k) = x at *
                      generalize c.getD k 0 = ck at *
                      generalize nxC c k = nk at *
                      generalize rbOf vs ck = rbk at *
                      generalize cpOf vs ck = cpk at *
                      have wxL : IntKind.i64.wrap (x - L) = x - L := IntWalk.i64_in _ (by omega)
                      go_wp2
                      go_still_tail 21, (by kernel_rfl)
                      change wpList _ _ _ _ _ wz.drew
                      have t3 := T3.out
                      have t4 := T4.out
                      generalize wz.drew = wq at *
                      clear q1 q2 r3 r6 T3 T4
                      go_wp2
                      go_roundw
                      case rel => exact ⟨k + 1, by omega, by go_num, T1.out, HCN.out, HB6.out⟩
                      case measure => simp [intOf]; omega
                    · have hkf : k = c.length := by omega
                      subst hkf
                      have HT7 := Lib.hid hown
                      clear hown
                      go_wp2
                      go_roundg gO
                      case measure => omega
                      case rel => exact ⟨i, fO, downC gc c, hi, rfl, HDV.out, HDL.out, HNF2.out, HSM2.out, HMS2.out, HNO2.out, by rw [HDN.out]; exact HT7.out, hblz⟩
          · have hie : i = g.length := by omega
            subst hie
            have hfn : fcF gc = none := (fcS_none _ _).2 fun b _ hb => hno b (by rw [← hgl]; omega)
            have HT3 : Hid (OwnT wx w.heap.size (.slice (some ⟨gt, 0, none⟩) g.length capt) (netL g)) := by
              show OwnT _ _ _ _
              have h := HNF.out
              rw [netF_end hfn] at h
              rw [E.out, ← h]
              exact hT.table
            clear hfn hT hvd hgl hnf hno hsm hms
            go_wp2
            go_ret
            exact ⟨_, rfl, HT3.out, hbl⟩

end Go.Proofs.Ytbedjebnllimpaa
