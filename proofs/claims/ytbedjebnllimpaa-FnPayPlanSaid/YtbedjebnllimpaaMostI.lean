/- The friend who must pay the most: a range over the map, in whatever order. -/
import Derived.Test.YtbedjebnllimpaaMapI
namespace Go.Proofs.Ytbedjebnllimpaa
open Go.RowKit Go.Maps

/-- r is the first of those with the least balance among those that have come. -/
def BestR (ys : List Int) (n : Nat) (left : Lit → Bool) (r : Int) : Prop :=
  (r = -1 ∧ ∀ j : Nat, owF ys n j = true → left (.int .i64 (j : Int)) = true) ∨
  ∃ k : Nat, r = k ∧ owF ys n k = true ∧ ∀ j : Nat, owF ys n j = true → left (.int .i64 (j : Int)) = false → ys.getD k 0 < ys.getD j 0 ∨ ys.getD k 0 = ys.getD j 0 ∧ k ≤ j

theorem owF_iff {ys : List Int} {n j : Nat} : owF ys n j = true ↔ j < n ∧ ys.getD j 0 < 0 := by unfold owF; simp only [Bool.and_eq_true, decide_eq_true_eq]

theorem BestR.fin {ys : List Int} {n : Nat} {left : Lit → Bool} {r : Int} (h : BestR ys n left r) (hl : ∀ kl, left kl = false) (hex : ∃ j, owF ys n j = true) : r = (loN ys n : Nat) := by
  obtain ⟨j0, hj0⟩ := hex
  rcases h with ⟨_, h⟩ | ⟨k, rfl, hk, h⟩
  · have := h j0 hj0
    rw [hl] at this; cases this
  · have hj0' := owF_iff.1 hj0
    have hk' := owF_iff.1 hk
    have s1 := loN_spec ys n (by omega)
    have s2 := loN_first ys n (by omega)
    have h0 := s1.2 j0 hj0'.1
    have hlo : owF ys n (loN ys n) = true := owF_iff.2 ⟨s1.1, by omega⟩
    have h3 := h _ hlo (hl _)
    have h4 := s1.2 k hk'.1
    congr 1
    by_cases e : k < loN ys n
    · have := s2 k e; omega
    · omega

/-- A friend has come who is the first to come, or ahead of the best. -/
theorem BestR.take {ys : List Int} {n : Nat} {left left' : Lit → Bool} {r : Int} {j : Nat} (h : BestR ys n left r) (hj : owF ys n j = true) (hleft : ∀ z, left' z = (left z && !z.sameKey (.int .i64 (j : Int)))) (hb : ∀ k : Nat, r = k → ys.getD j 0 < ys.getD k 0 ∨ ys.getD j 0 = ys.getD k 0 ∧ j < k) : BestR ys n left' (j : Int) := by
  refine .inr ⟨j, rfl, hj, fun i hi hl => ?_⟩
  by_cases e : i = j
  · subst e; exact .inr ⟨rfl, Nat.le_refl _⟩
  · rw [hleft, sameKey_ne (lit_ne e)] at hl
    simp only [Bool.not_false, Bool.and_true] at hl
    rcases h with ⟨_, h⟩ | ⟨k, rfl, hk, h⟩
    · rw [h i hi] at hl; cases hl
    · have h1 := h i hi hl
      have h2 := hb k rfl
      omega

/-- A friend has come who is not ahead of the best. -/
theorem BestR.stay {ys : List Int} {n : Nat} {left left' : Lit → Bool} {k j : Nat} (h : BestR ys n left (k : Int)) (hleft : ∀ z, left' z = (left z && !z.sameKey (.int .i64 (j : Int)))) (hb : ys.getD k 0 < ys.getD j 0 ∨ ys.getD k 0 = ys.getD j 0 ∧ k ≤ j) : BestR ys n left' (k : Int) := by
  rcases h with ⟨h, _⟩ | ⟨k', e, hk, h⟩
  · exfalso; omega
  · have : k' = k := by omega
    subst this
    refine .inr ⟨k', rfl, hk, fun i hi hl => ?_⟩
    by_cases e : i = j
    · subst e; exact hb
    · rw [hleft, sameKey_ne (lit_ne e)] at hl
      simp only [Bool.not_false, Bool.and_true] at hl
      exact h i hi hl

/-- The step of the range: nothing is left, or a friend who must pay comes, with the place of the balance. -/
theorem wpList_next_owing {w : World} {ops : Array Oper} {rest : List Oper} {o : Oper} {a : Act} {Q : Exit → Act → World → Prop} (it : Operand) {g bm r n nm cnt : Nat} {ys : List Int} {D : DataW Unit} {left : Lit → Bool}
    (h : w.ranges Try.prog 3 (ptrR g) bm r nm D left cnt) (hD : OwD (owF ys n) D) (hsub : ∀ kl, left kl = true → Maps.has D kl = true)
    (hDone : (∀ kl, left kl = false) → wpList Try.prog ops Q rest (a.put o.dst (.tuple #[.bool false])) w)
    (hMore : ∀ (j : Nat) (w' : World) (left' : Lit → Bool) (cnt' : Nat), owF ys n j = true → w'.ranges Try.prog 3 (ptrR g) bm r nm D left' cnt' → (∀ z, left' z = (left z && !z.sameKey (.int .i64 (j : Int)))) → cnt' < cnt →
      w.grownBy w' (some r) → (Instr.entry (.pointer (some ⟨r, 0, none⟩))).run Try.prog w' = .ok (.tuple #[.int .i64 (j : Int), .pointer (some ⟨g, j, none⟩)]) w' → wpList Try.prog ops Q rest (a.put o.dst (.tuple #[.bool true, .int .i64 (j : Int), .pointer (some ⟨g, j, none⟩)])) w')
    (hg : o.guard = none := by rfl) (hop : o.op = Op.next it false := by rfl) (hit : a.eval it = .pointer (some ⟨r, 0, none⟩) := by rfl) :
    wpList Try.prog ops Q (o :: rest) a w := by
  refine wpList_next_ranges w hg it hop 3 lawI (ptrR g) (Value.int .i64) (ptrV g) (fun key kl hkey => ?_) (fun v y hv => ?_) bm r nm D left cnt hit h (fun _ hl => hDone hl) (fun x c kl y w' cnt' hkey hlk hv hat hrg hlt hgr _ hen => ?_)
  · obtain ⟨x, rfl, _⟩ := Maps.keyOf_int_inv Try.underlying3 hkey; exact ⟨x, rfl⟩
  · obtain ⟨c, rfl, _⟩ := ptrR_inv hv; exact ⟨c, rfl⟩
  · obtain ⟨j, rfl, hj⟩ := hD.1 kl (hsub kl hlk)
    obtain ⟨x', ex, ekl, _⟩ := Maps.keyOf_int_inv Try.underlying3 hkey
    cases ex
    simp only [Lit.int.injEq, true_and] at ekl
    subst ekl
    obtain ⟨c', ec, hc⟩ := ptrR_inv hv
    have h1 := hat (.lit (.bool false))
    rw [(hD.2 j hj).2] at h1
    rw [← h1] at hc
    have hcc : ptrV g c = .pointer (some ⟨g, j, none⟩) := by
      rw [ec]
      cases c' with
      | none => cases hc
      | some o =>
        simp only [DataW.lit.injEq, Lit.int.injEq, true_and] at hc
        have : o = j := by omega
        subst this; rfl
    rw [hcc] at hen ⊢
    exact hMore j w' _ cnt' hj hrg (fun z => rfl) hlt hgr hen

set_option maxRecDepth 100000 in
set_option maxHeartbeats 3200000 in
theorem mostOwing_impl (g n cap : Nat) (ys : List Int) (B bm nm : Nat) (D : DataW Unit) (w : World) (hown : Own w B (sl g n cap) ys) (hl : ys.length = n) (h6 : n ≤ 6) (hm : w.ownsMap Try.prog 3 (ptrR g) bm nm D) (hD : OwD (owF ys n) D) (hex : ∃ j, owF ys n j = true) :
    Calls Try.prog 82 #[.map (some bm)] w fun e w' => e = .returned (.int .i64 ((loN ys n : Nat) : Int)) ∧ Below w.heap.size w w' := by
  have HCE : Hid (∀ k, k < n → g < w.heap.size ∧ w.cell? ⟨g, k, none⟩ = some (.int .i64 (ys.getD k 0))) := fun k hk => ⟨(hown.lt g rfl).2, hown.cell hl k hk⟩
  have HEX := Lib.hid hex
  have HD := Lib.hid hD
  have HH : Hid (∀ j : Nat, owF ys n j = true → Maps.has D (.int .i64 (j : Int)) = true) := fun j hj => (hD.2 j hj).1
  clear hown hex hD
  go_enter Try.func82, Try.ntmps82
  go_wp2_with (at_range; refine wpList_range_own _ rfl _ 64 rfl 3 58 lawI Try.underlying64 (ptrR g) bm nm D rfl hm ?_; intro w0 hrg0 hg0 hs0)
  go_frame
  have hb0 : Below w.heap.size w w0 := below_grown hg0 (Nat.le_refl _) (fun j hj => by cases hj)
  clear hg0 hs0 hm
  go_loopw [3] (fun rv wr => ∃ (r : Int) (left : Lit → Bool) (cnt : Nat), rv = .int .i64 r ∧ wr.ranges Try.prog 3 (ptrR g) bm w.heap.size nm D left cnt ∧ (∀ kl, left kl = true → Maps.has D kl = true) ∧ BestR ys n left r ∧ Below w.heap.size w wr) (fun _ wr => wr.rangeLeft bm w.heap.size)
  case atStart => exact ⟨-1, _, _, rfl, hrg0, fun kl h => h, .inl ⟨rfl, HH.out⟩, hb0⟩
  case round =>
    obtain ⟨r, left, cnt, rfl, hrg, hsub, hbest, hbl⟩ := hrel
    rename World => wr
    clear hrg0 hb0
    have HB := Lib.hid hbest
    clear hbest
    go_wp2_with (at_next; refine wpList_next_owing _ hrg HD.out hsub ?_ ?_)
    · intro hl0
      have HR := Lib.hid (HB.out.fin hl0 HEX.out)
      go_wp2
      go_ret
      exact ⟨ret_int HR.out, hbl⟩
    · intro j w1 left' cnt' hj hrg1 hleft hlt hg1 hen
      have hb1 : Below w.heap.size w w1 := hbl.trans (below_grown hg1 hbl.size (fun j hj => by cases hj; exact Nat.le_refl _))
      have hjn := (owF_iff.1 hj).1
      have cj := (hb1.cell (p := ⟨g, j, none⟩) (HCE.out j hjn).1).trans (HCE.out j hjn).2
      have hlt2 : w1.rangeLeft bm w.heap.size < wr.rangeLeft bm w.heap.size := by rw [hrg1.left_eq, hrg.left_eq]; exact hlt
      have hsub2 : ∀ kl, left' kl = true → Maps.has D kl = true := fun kl h => hsub kl (by rw [hleft, Bool.and_eq_true] at h; exact h.1)
      have HRG := Lib.hid hrg1
      have HSUB := Lib.hid hsub2
      have HLEFT := Lib.hid hleft
      have HJ := Lib.hid hj
      have HLT := Lib.hid hlt2
      clear hrg1 hsub2 hleft hj hlt2 hrg hsub hg1 hlt
      rcases HB.out with ⟨rfl, _⟩ | ⟨k, rfl, hk, _⟩
      · have HB2 := Lib.hid (HB.out.take HJ.out HLEFT.out (fun k hk => by omega))
        generalize ys.getD j 0 = yj at *
        go_wp2
        go_region
        go_wp2
        exact ⟨⟨_, left', cnt', rfl, HRG.out, HSUB.out, HB2.out, hb1.drew⟩, HLT.out⟩
      · have hkn := owF_iff.1 hk
        have ck := (hb1.cell (p := ⟨g, k, none⟩) (HCE.out k hkn.1).1).trans (HCE.out k hkn.1).2
        have hlook : (Instr.lookup 64 (.map (some bm)) (.int .i64 (k : Int)) false).run Try.prog w1.drew = .ok (.pointer (some ⟨g, k, none⟩)) w1.drew := lookup_ptr HD.out (b := bm) (n := nm) (w := w1.drew) HRG.out.owns hk (by omega)
        have hk0 : ¬ (k : Int) < 0 := by omega
        have hk0' : decide ((k : Int) < 0) = false := decide_eq_false hk0
        have HTK : Hid ((ys.getD j 0 < ys.getD k 0 ∨ ys.getD j 0 = ys.getD k 0 ∧ j < k) → BestR ys n left' (j : Int)) := fun h => HB.out.take HJ.out HLEFT.out (fun k' hk' => by (have : k' = k := (by omega)); subst this; exact h)
        have HST : Hid ((ys.getD k 0 < ys.getD j 0 ∨ ys.getD k 0 = ys.getD j 0 ∧ k ≤ j) → BestR ys n left' (k : Int)) := fun h => HB.out.stay HLEFT.out h
        clear hk hkn
        generalize ys.getD j 0 = yj at *
        generalize ys.getD k 0 = yk at *
        by_cases h1 : yj < yk
        · have HB2 := Lib.hid (HTK.out (.inl h1))
          have d1 : decide (yj < yk) = true := decide_eq_true h1
          go_wp2
          go_region
          go_wp2
          exact ⟨⟨_, left', cnt', rfl, HRG.out, HSUB.out, HB2.out, hb1.drew⟩, HLT.out⟩
        · have d1 : decide (yj < yk) = false := decide_eq_false h1
          by_cases h2 : yj = yk
          · have d2 : (yj == yk) = true := by rw [h2]; exact beq_self_eq_true yk
            by_cases h3 : j < k
            · have HB2 := Lib.hid (HTK.out (.inr ⟨h2, h3⟩))
              have d3 : (j : Int) < (k : Int) := by omega
              have d3' : decide ((j : Int) < (k : Int)) = true := decide_eq_true d3
              clear h2 h3
              go_wp2
              go_region
              go_wp2
              exact ⟨⟨_, left', cnt', rfl, HRG.out, HSUB.out, HB2.out, hb1.drew⟩, HLT.out⟩
            · have HB2 := Lib.hid (HST.out (.inr ⟨h2.symm, by omega⟩))
              have d3 : ¬ (j : Int) < (k : Int) := by omega
              have d3' : decide ((j : Int) < (k : Int)) = false := decide_eq_false d3
              clear h2 h3
              go_wp2
              go_region
              go_wp2
              exact ⟨⟨_, left', cnt', rfl, HRG.out, HSUB.out, HB2.out, hb1.drew⟩, HLT.out⟩
          · have d2 : (yj == yk) = false := beq_eq_false_iff_ne.2 h2
            have HB2 := Lib.hid (HST.out (.inl (by omega)))
            clear h2
            go_wp2
            go_region
            go_wp2
            exact ⟨⟨_, left', cnt', rfl, HRG.out, HSUB.out, HB2.out, hb1.drew⟩, HLT.out⟩

end Go.Proofs.Ytbedjebnllimpaa
