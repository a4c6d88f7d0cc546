/- The tables that the search goes through have the grid's form, and numbers that fit. -/
import Derived.Test.YtlibfmbbchhjeaaNext
namespace Go.Proofs.Ytlibfmbbchhjeaa

section
open Go.RowKit

/-- The first rounded table from o on, in at most f steps. -/
def seek (g : List (List Int)) (u : Int) : Nat → List (List Int) → Option (List (List Int))
  | 0, _ => none
  | f + 1, o => if roundS g u o = true then some o else if (nextAll g u g.length o).1 = true then seek g u f (nextAll g u g.length o).2 else none

/-- The search from o comes to its end in at most f steps. -/
def ends (g : List (List Int)) (u : Int) : Nat → List (List Int) → Prop
  | 0, _ => False
  | f + 1, o => roundS g u o = true ∨ (nextAll g u g.length o).1 = false ∨ ends g u f (nextAll g u g.length o).2

/-- Every number is at least 0 and small, and the form is the grid's. -/
def candOK (g o : List (List Int)) : Prop := sameForm g o ∧ FitsG o

/-- What the function answers: the table of its own, or nil. -/
def answers (w : World) (B : Nat) (v : Value) : Option (List (List Int)) → Prop
  | none => v = .slice none 0 0
  | some o => OwnGrid w B v o

set_option maxRecDepth 100000 in
set_option maxHeartbeats 1600000 in
theorem roundGrid_impl (v : Value) (g : List (List Int)) (u : Int) (w : World) (F : Nat) (hv : IsGrid w v g) (h1 : vGrid g u = true) (he : ends g u F (downG g u))
    (hok : candOK g (downG g u)) (hstep : ∀ o, candOK g o → candOK g (nextAll g u g.length o).2) :
    Calls Try.prog 37 #[v, .int .i64 u] w fun e w' => ∃ v', e = .returned v' ∧ answers w' w.heap.size v' (seek g u F (downG g u)) ∧ Below w.heap.size w w' := by
  obtain ⟨a, cap, rfl, _⟩ := id hv
  obtain ⟨hl3, hr3⟩ := sides_of_vGrid h1
  have hl : g.length ≤ 9223372036854775807 := by omega
  have hr : ∀ i, i < g.length → (rowOf g i).length ≤ 9223372036854775807 := fun i hi => by have := hr3 i hi; omega
  have HR := Lib.hid hr
  have HR3 := Lib.hid hr3
  clear hr hr3
  go_enter Try.func37, Try.ntmps37
  go_wp2_with (go_at_call 70; refine (canRound_impl _ _ _ _ hv hl HR.out).mono ?_; rw [h1]; rintro e w' ⟨rfl, rfl⟩)
  refine (roundedDown_impl _ g u _ hv h1).mono ?_
  rintro e w1 ⟨v1, rfl, hO, hb1⟩
  obtain ⟨b0, _, hzv, _⟩ := id hO
  unfold rowVal at hzv
  subst hzv
  go_wp2
  go_loopg [] F (fun q wr => ∃ o, candOK g o ∧ OwnGrid wr w.heap.size (.slice (some ⟨b0, 0, none⟩) (downG g u).length (downG g u).length) o ∧ ends g u q o ∧ seek g u F (downG g u) = seek g u q o ∧ Below w.heap.size w wr)
  case atStart => exact ⟨_, hok, hO, he, rfl, hb1⟩
  case round =>
    clear hO hb1 he hok
    obtain ⟨o, hco, hO, he, hsk, hbl⟩ := hrel
    have HSK := Lib.hid hsk
    have HE := Lib.hid he
    have HO := Lib.hid hO
    clear hsk he hO
    cases gk with
    | zero => exact HE.out.elim
    | succ q =>
      go_wp2_with fail
      refine (isRounded_impl _ _ g o u _ (hv.below hbl) HO.out.grid hl HR.out hco.2).mono ?_
      rintro e w2 ⟨rfl, hb2⟩
      rw [roundP_eq]
      have HO2 := Lib.hid (HO.out.below hb2)
      have hbl2 : Below w.heap.size w w2 := hbl.trans (hb2.mono hbl.size)
      clear HO hb2
      cases hrd : roundS g u o
      · have HRD := Lib.hid hrd
        clear hrd
        go_wp2_with fail
        refine (roundNext_impl _ _ g o u w w2 w.heap.size hv hbl2 (Nat.le_refl _) hbl2.size h1 HO2.out hco.1).mono ?_
        rintro e w3 ⟨rfl, hO3, hb3⟩
        have hbl3 := hbl2.trans hb3
        have HO3 := Lib.hid hO3
        clear hO3 hb3 HO2
        cases hnx : (nextAll g u g.length o).1
        · have HNX := Lib.hid hnx
          clear hnx
          go_wp2
          go_ret
          refine ⟨.slice none 0 0, rfl, ?_, hbl3⟩
          rw [HSK.out, seek, if_neg (by rw [HRD.out]; decide), if_neg (by rw [HNX.out]; decide)]
          rfl
        · have HNX := Lib.hid hnx
          clear hnx
          go_wp2
          go_roundg q
          case measure => omega
          case rel =>
            refine ⟨_, hstep o hco, HO3.out, ?_, ?_, hbl3⟩
            · rcases HE.out with h | h | h
              · rw [HRD.out] at h; exact absurd h (by decide)
              · rw [HNX.out] at h; exact absurd h (by decide)
              · exact h
            · rw [HSK.out, seek, if_neg (by rw [HRD.out]; decide), if_pos HNX.out]
      · have HRD := Lib.hid hrd
        clear hrd
        go_wp2
        go_ret
        refine ⟨_, rfl, ?_, hbl2⟩
        rw [HSK.out, seek, if_pos HRD.out]
        exact HO2.out

end

open Go.RowKit

theorem cellOf_setC (o : List (List Int)) (i k : Nat) (x : Int) (i' k' : Nat) (hi : i < o.length) (hk : k < (rowOf o i).length) : cellOf (setC o i k x) i' k' = if i' = i ∧ k' = k then x else cellOf o i' k' := by
  unfold cellOf
  rw [setC_row o i k x i' hi]
  by_cases h : i' = i
  · subst h
    rw [if_pos rfl]
    by_cases hk' : k' = k
    · subst hk'
      rw [if_pos ⟨rfl, rfl⟩]
      simp [List.getD, hk]
    · rw [if_neg (fun e => hk' e.2)]
      have h' : ¬ k = k' := fun e => hk' e.symm
      simp [List.getD, h']
  · rw [if_neg h, if_neg (fun e => h e.1)]

theorem candOK.set {g o : List (List Int)} (h : candOK g o) {i k : Nat} (hi : i < g.length) (hk : k < (rowOf g i).length) {x : Int} (hx : -9223372036854775808 ≤ x ∧ x ≤ 9223372036854775807) : candOK g (setC o i k x) := by
  refine ⟨h.1.set hi k x, fun i' k' hi' hk' => ?_⟩
  rw [cellOf_setC o i k x i' k' (by rw [h.1.1]; exact hi) (by rw [h.1.2]; exact hk)]
  by_cases e : i' = i ∧ k' = k
  · rw [if_pos e]; exact hx
  · rw [if_neg e]
    rw [setC_length] at hi'
    rw [setC_rowlen o i k x i' (by rw [h.1.1]; exact hi)] at hk'
    exact h.2 i' k' hi' hk'

section
variable {g : List (List Int)} {u : Int}

theorem div_small (h1 : vGrid g u = true) {i k : Nat} (hi : i < g.length) (hk : k < (rowOf g i).length) : 0 ≤ cellOf g i k / u ∧ cellOf g i k / u ≤ 50 := by
  obtain ⟨_, hu, h3⟩ := (vGrid_iff g u).1 h1
  have hx := (h3 i hi).2.2 k hk
  have hq0 : 0 ≤ cellOf g i k / u := Int.ediv_nonneg hx.1 (by omega)
  have hq1 : cellOf g i k / u ≤ cellOf g i k := Int.ediv_le_self _ hx.1
  omega

theorem candOK_in (h1 : vGrid g u = true) {i : Nat} (hi : i < g.length) : ∀ k, k ≤ (rowOf g i).length → ∀ o, candOK g o → candOK g (nextIn g u i k o).2
  | 0, _, _, h => h
  | k + 1, hk, o, h => by
    have hd := div_small h1 hi (k := k) (by omega)
    by_cases hc : cellOf o i k = cellOf g i k / u ∧ cellOf g i k % u ≠ 0
    · rw [nextIn_yes hc]
      exact h.set hi (by omega) (by rw [hc.1]; omega)
    · rw [nextIn_no hc]
      exact candOK_in h1 hi k (by omega) _ (h.set hi (by omega) (by omega))

theorem candOK_all (h1 : vGrid g u = true) : ∀ i, i ≤ g.length → ∀ o, candOK g o → candOK g (nextAll g u i o).2
  | 0, _, _, h => h
  | i + 1, hi, o, h => by
    have hin := candOK_in h1 (i := i) (by omega) _ (Nat.le_refl _) o h
    unfold nextAll
    by_cases hb : (nextIn g u i (rowOf g i).length o).1 = true
    · rw [if_pos hb]; exact hin
    · rw [if_neg hb]; exact candOK_all h1 i (by omega) _ hin

theorem candOK_down (h1 : vGrid g u = true) : candOK g (downG g u) := by
  have hrow : ∀ j, rowOf (downG g u) j = (rowOf g j).map (· / u) := by
    intro j
    by_cases hj : j < g.length
    · exact downG_row g u j hj
    · have e1 : rowOf g j = [] := by simp [rowOf, List.getD, Nat.not_lt.1 hj]
      have e2 : rowOf (downG g u) j = [] := by simp [rowOf, downG, List.getD, Nat.not_lt.1 hj]
      rw [e1, e2]; rfl
  refine ⟨⟨downG_length g u, fun j => by rw [hrow j]; simp⟩, fun i k hi hk => ?_⟩
  rw [downG_length] at hi
  rw [hrow i, List.length_map] at hk
  have hd := div_small h1 hi hk
  have e : cellOf (downG g u) i k = cellOf g i k / u := by
    unfold cellOf
    rw [hrow i]
    simp [List.getD, hk]
  rw [e]
  omega

end

end Go.Proofs.Ytlibfmbbchhjeaa
