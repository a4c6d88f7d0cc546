/- The law FnValidRates: the walk. -/
import Derived.Test.YtiffjeclpgcabaaLRat
import Derived.Test.YtiffjeclpgcabaaRatI
namespace Go.Proofs.Ytiffjeclpgcabaa
open Go.RowKit

set_option maxHeartbeats 800000 in
theorem DrawValidRates_own (a : Option Addr) (n cap : Nat) (w : World) (h : IsBytes w a n) (hc : n ≤ cap) :
    Calls Try.prog 19 #[.slice a n cap] w fun e w' => ∃ B v vs g, e = .returned v ∧ OwnTVR w' B v vs g ∧ Rows45 g ∧ Below w.heap.size w w' := by
  go_enter Try.func19, Try.ntmps19
  go_wp2_with fail
  refine (newReader_any a n cap _ h hc).mono ?_
  rintro e w1 ⟨rfl, h1, b1⟩
  go_wp2_with fail
  refine (someRates_any _ _ _ _ _ h1 (by omega)).mono ?_
  rintro e w2 ⟨v, vs, g, rfl, st2, r45⟩
  have b2 := below_reader b1 st2.gr
  have H := Lib.hid st2.tb
  clear st2 h1
  go_wp2
  go_ret
  exact ⟨_, _, _, _, rfl, H.out, r45, b2⟩

theorem OwnRs.capLe {w : World} {B n cap : Nat} {a : Option Addr} {st : List (Int × Int)} (h : OwnRs w B (.slice a n cap) st) : n ≤ cap := by
  rcases h.2 with ⟨h0, _⟩ | ⟨g, c, cur, hv, _, _, hl, _⟩
  · simp only [Value.slice.injEq] at h0
    omega
  · simp only [Value.slice.injEq] at hv
    omega

/-- append(table of row values, row value). -/
theorem wpList_pushVR {ops : Array Oper} {rest : List Oper} {o : Oper} {a : Act} {Q : Exit → Act → World → Prop} {wr : World} {s x : Operand} {B : Nat} {v rv : Value} {vs : List Value}
    (hown : wr.ownsRow B 26 1 v vs.length vs) (hone : rv.oneCell' = true) (hlen : vs.length ≤ 1048576) (hB : B ≤ wr.heap.size) (hgd : o.guard = none := by rfl)
    (ho : o.op = .call { callee := .builtin .append, args := #[s, x], argTypes := #[23, 23] } := by rfl)
    (hs : a.eval s = v := by rfl) (hx : a.eval x = .slice (some ⟨wr.heap.size, 0, none⟩) 1 1 := by rfl)
    (h : ∀ v' w', w'.ownsRow B 26 1 v' (vs ++ [rv]).length (vs ++ [rv]) → wr.grownBy w' v.ownBlock → wpList Try.prog ops Q rest (a.put o.dst v') w') :
    wpList Try.prog ops Q (o :: rest) a (wr.alloc (.cells #[rv] 26)) := by
  obtain ⟨i0, hi, hz0, hz1, hz2⟩ := info_parts infoRs
  refine wpList_append_own_at _ hgd s x 23 ho B 26 i0 (.slice none 0 0) 1 24 Try.underlying23 hi hz0 hz1 hz2 rfl (by decide) v vs.length vs hs (World.ownsRow.alloc hown _) ⟨wr.heap.size, 0, none⟩ 1 1 [rv] hx rfl (cell_one_new _ _ _) (by intro u hu; simp at hu; subst hu; exact hone) (by unfold maxLen; omega) (by omega) (by simp; omega) ?_
  intro v' w' h1 h2 _ _
  refine h v' w' ?_ ((World.grownBy_alloc wr _ _).trans h2)
  rw [List.length_append]
  exact h1

theorem rsTake {w : World} {ar : Option Addr} {cr m : Nat} {st : List (Int × Int)} (h : IsRs w (.slice ar st.length cr) st) (hm : m ≤ st.length) : IsRs w (.slice ar m cr) (st.take m) := by
  obtain ⟨a', c', e, hc⟩ := h
  simp only [Value.slice.injEq, true_and] at e
  obtain ⟨rfl, rfl⟩ := e
  have hl : (st.take m).length = m := by rw [List.length_take]; omega
  refine ⟨ar, cr, by rw [hl], fun j hj => ?_⟩
  rw [hl] at hj
  obtain ⟨b, off, e, h1, h2⟩ := hc j (by omega)
  refine ⟨b, off, e, ?_, ?_⟩
  · rw [h1]; unfold rUp; rw [List.getD_eq_getElem?_getD, List.getD_eq_getElem?_getD, List.getElem?_take, if_pos hj]
  · rw [h2]; unfold rDn; rw [List.getD_eq_getElem?_getD, List.getD_eq_getElem?_getD, List.getElem?_take, if_pos hj]

/-- The rates without the last money. -/
def lessR (g : List (List (Int × Int))) (m : Nat) : List (List (Int × Int)) := (List.range m).map fun a => (rowR g a).take m
theorem lessR_length (g : List (List (Int × Int))) (m : Nat) : (lessR g m).length = m := by simp [lessR]
theorem lessR_row {g : List (List (Int × Int))} {m a : Nat} (ha : a < m) : rowR (lessR g m) a = (rowR g a).take m := by simp [lessR, rowR, List.getD, ha]
theorem lessR_ok {g : List (List (Int × Int))} {m : Nat} (hR : Rates g) (hm : m + 1 = g.length) (h1 : 1 ≤ m) : vRates (lessR g m) = true := by
  have h4 := hR.len4
  have hc : ∀ a b, a < m → b < m → cellX (lessR g m) a b = cellX g a b := fun a b ha hb => by
    unfold cellX
    rw [lessR_row ha]
    unfold rUp rDn
    simp only [List.getD_eq_getElem?_getD, List.getElem?_take, if_pos hb]
  refine vRates_iff.2 ⟨by rw [lessR_length]; exact h1, by rw [lessR_length]; omega, fun a ha => ?_, fun a ha => ?_, fun a b ha hb => ?_⟩
  · rw [lessR_length] at ha
    rw [lessR_row ha, lessR_length, List.length_take, hR.row a (by omega)]
    omega
  · rw [lessR_length] at ha
    rw [hc a a ha ha]; exact hR.one a (by omega)
  · rw [lessR_length] at ha hb
    rw [hc a b ha hb]; exact hR.bd a b (by omega) (by omega)

set_option maxRecDepth 100000 in
set_option maxHeartbeats 3200000 in
theorem FnValidRates_walk (a : Option Addr) (n cap : Nat) (w : World) (h : IsBytes w a n) (hc : n ≤ cap) :
    Calls Try.prog 3 #[.slice a n cap] w fun e w' => e = .returned (.bool true) ∧ Below w.heap.size w w' := by
  by_cases hbig : (1048576 : Int) < (n : Int)
  · go_enter Try.func3, Try.ntmps3
    go_wp2
    go_ret
    exact ⟨rfl, Below.refl _ _⟩
  · go_enter Try.func3, Try.ntmps3
    go_wp2_with fail
    refine (DrawValidRates_own a n cap w h hc).mono ?_
    rintro e w1 ⟨B, v, vs, g, rfl, tb, r45, b1⟩
    have g1 := tb.table.grid
    have hsz := r45.sized
    have HIM := Lib.hid (fun wx hb => ValidRates_impl v g wx (g1.below (w := w1) hb) hsz.1 hsz.2)
    have HSP := Lib.hid (fun wx hb => ValidRates_spec v g wx (g1.below (w := w1) hb) hsz.1 hsz.2)
    have hg4 := r45.1
    obtain ⟨av, cp, rfl, _⟩ := id g1
    clear hsz
    go_wp2_with fail
    refine (HIM.out _ (Below.refl _ _)).mono ?_
    rintro e w2 ⟨rfl, d2⟩
    go_wp2_with fail
    refine (HSP.out _ d2).mono ?_
    rintro e w3 ⟨rfl, d3⟩
    have d4 := d2.trans (d3.mono d2.size)
    clear d2 d3 HIM
    cases hv : vRates g
    · rw [hv] at HSP
      clear tb g1
      go_wp2_with fail
      refine (HSP.out _ d4).mono ?_
      rintro e w7 ⟨rfl, d7⟩
      have B7 := Lib.hid (b1.trans ((d4.trans (d7.mono d4.size)).mono b1.size))
      go_wp2
      go_ret
      exact ⟨rfl, B7.out⟩
    · have hR := vRates_iff.1 hv
      have hl1 := hR.len1
      obtain ⟨m, hm⟩ : ∃ m, g.length = m + 1 := ⟨g.length - 1, by omega⟩
      rcases id tb.2.1.2 with ⟨_, hz⟩ | ⟨b, cap0, cur, hsh, _⟩
      · exact absurd hz (by omega)
      simp only [Value.slice.injEq, true_and] at hsh
      obtain ⟨rfl, rfl⟩ := hsh
      have HROW : Hid (∀ i, i < g.length → ∃ g2 c2, w1.cell? ⟨b, i, none⟩ = some (slR g2 (m + 1) c2) ∧ m + 1 ≤ c2 ∧ IsRs w1 (slR g2 m c2) ((rowR g i).take m)) := fun i hi => by
        have cn := World.ownsRow.cellAt tb.2.1 i (by omega)
        rw [show vs[i]? = some (vs.getD i undef) by rw [List.getD_eq_getElem?_getD, List.getElem?_eq_getElem (by rw [tb.1]; exact hi)]; rfl] at cn
        have hrow := (tb.2.2.1 i hi).1
        have hlr := hR.row i hi
        rw [hm] at hlr
        obtain ⟨g2, c2, e, _, _⟩ := hrow.form (by omega)
        have hrs := hrow.rs
        have hcl := hrow
        rw [e] at cn hrs hcl
        have hcap := hcl.capLe
        rw [hlr] at cn hcap
        exact ⟨g2, c2, cn, hcap, rsTake hrs (by omega)⟩
      have HLS := Lib.hid (lessR_ok (m := m) hR hm.symm)
      have HRL : Hid (∀ i, i < g.length → (rowR g i).length = m + 1) := fun i hi => by rw [← hm]; exact hR.row i hi
      have o0 := World.ownsRow_lit (e := 26) (size := 1) w3 #[] 0 (base := w1.heap.size) d4.size (by unfold maxLen; omega) rfl
      have d5 := d4.alloc d4.size (.cells #[] 26)
      have HM := Lib.hid hm
      have hm4 : m + 1 ≤ 4 := by omega
      clear tb g1 HSP hR d4 hm
      go_wp2
      go_loopw [6, 7] (fun lv t wr => ∃ (i : Nat) (us : List Value), i ≤ m ∧ t = .int .i64 i ∧ us.length = i ∧ wr.ownsRow w1.heap.size 26 1 lv us.length us ∧ (∀ k, k < i → IsRs w1 (us.getD k undef) ((rowR g k).take m)) ∧ Below w1.heap.size w1 wr) (fun _ t _ => m - (intOf t).toNat)
      case atStart => exact ⟨0, [], Nat.zero_le _, rfl, rfl, o0, fun k hk => absurd hk (Nat.not_lt_zero _), d5⟩
      case round =>
        obtain ⟨i, us, hi, rfl, hul, hown, hrs, hbl⟩ := hrel
        rename World => wo
        have HUL := Lib.hid hul
        have HRS := Lib.hid hrs
        have hu4 : us.length ≤ 4 := by have := HM.out; omega
        clear o0 d5 hul hrs
        by_cases hlt : i < m
        · have i0 : (i : Int) + 1 < (g.length : Int) := by have := HM.out; omega
          have i1 : (i : Int) < (g.length : Int) := by omega
          obtain ⟨g2, c2, cn, hcap, hrow⟩ := HROW.out i (by omega)
          have cn2 := cell_below cn hbl
          have m0 : 0 ≤ (g.length : Int) - 1 := by omega
          have m1 : (g.length : Int) - 1 ≤ (c2 : Int) := by have := HM.out; omega
          have m2 : ((g.length : Int) - 1).toNat = m := by have := HM.out; omega
          have hsz2 : w1.heap.size ≤ wo.heap.size := hbl.size
          have HRW := Lib.hid hrow
          clear cn hrow
          go_wp2_with (at_builtin; refine wpList_pushVR hown rfl (by omega) hsz2 (h := ?_))
          intro lv2 w6 o6 g6
          have b6 := hbl.grown g6 hsz2 (fun k hk => (World.ownsRow.lt hown k hk).1)
          clear hown g6 hbl
          go_wp2
          go_roundw
          case rel => exact ⟨i + 1, us ++ [slR g2 m c2], by omega, by go_num, by simp [HUL.out], by rw [List.length_append]; exact o6, fun k hk => by
            by_cases e : k < i
            · rw [getD_snoc_lt (by rw [HUL.out]; exact e)]; exact HRS.out k e
            · have e2 : k = us.length := by rw [HUL.out]; omega
              rw [e2, getD_snoc_eq, HUL.out]; exact HRW.out, b6⟩
          case measure => simp [intOf]; omega
        · have hie : i = m := by omega
          have hni : ¬ (i : Int) + 1 < (g.length : Int) := by have := HM.out; omega
          by_cases h0 : m = 0
          · have hn1 : ((g.length : Int) == 1) = true := by simp; have := HM.out; omega
            have B9 := Lib.hid (b1.trans (hbl.mono b1.size))
            clear h0 hie hown hbl
            go_wp2
            go_ret
            exact ⟨rfl, B9.out⟩
          · have hn1 : ((g.length : Int) == 1) = false := by simp; have := HM.out; omega
            have hrd := lessR_length g m
            rcases id hown.2 with ⟨_, hz⟩ | ⟨b2, c2, cur2, rfl, _⟩
            · exact absurd hz (by have := HUL.out; omega)
            have hgr : IsGridR wo (.slice (some ⟨b2, 0, none⟩) us.length c2) (lessR g m) := by
              refine ⟨some ⟨b2, 0, none⟩, c2, by rw [hrd, ← hie, ← HUL.out], fun k hk => ?_⟩
              rw [hrd] at hk
              have cn := World.ownsRow.cellAt hown k (by have := HUL.out; omega)
              refine ⟨b2, 0, us.getD k undef, rfl, ?_, ?_⟩
              · rw [Nat.zero_add, cn, List.getD_eq_getElem?_getD, List.getElem?_eq_getElem (by have := HUL.out; omega)]; rfl
              · rw [lessR_row hk]; exact (HRS.out k (by omega)).below hbl
            have HVL := Lib.hid (ValidRates_impl _ _ _ hgr (by rw [hrd]; omega) (fun k hk => by rw [hrd] at hk; rw [lessR_row hk, List.length_take]; omega))
            have HL1 := Lib.hid (HLS.out (by omega))
            rw [HL1.out] at HVL
            have HBL := Lib.hid hbl
            clear h0 hie hown hbl hgr hrd
            go_wp2_with fail
            refine HVL.out.mono ?_
            rintro e w9 ⟨rfl, d9⟩
            have B9 := Lib.hid (b1.trans ((HBL.out.trans (d9.mono HBL.out.size)).mono b1.size))
            go_wp2
            go_ret
            exact ⟨rfl, B9.out⟩

end Go.Proofs.Ytiffjeclpgcabaa
