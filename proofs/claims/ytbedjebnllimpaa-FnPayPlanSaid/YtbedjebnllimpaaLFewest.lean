/- The laws FnFewestPays and FnPayPlan: the walks, out of contracts of the program's functions that are handed in. -/
import Derived.Test.YtbedjebnllimpaaLGroupsOf
import Derived.Test.YtbedjebnllimpaaPayL
import Derived.Test.YtbedjebnllimpaaAftP
namespace Go.Proofs.Ytbedjebnllimpaa
open Go.RowKit

/-- The contracts handed in. -/
def GroupsC : Prop := ∀ (v : Value) (xs : List Int) (w : World), IsInts w v xs → xs.length ≤ 9223372036854775807 → Calls Try.prog 34 #[v] w fun e w' => e = .returned (.int .i64 (groupsV xs)) ∧ Below w.heap.size w w'
def FewestC : Prop := ∀ (v : Value) (xs : List Int) (w : World), IsInts w v xs → xs.length ≤ 9223372036854775807 → Calls Try.prog 38 #[v] w fun e w' => e = .returned (.int .i64 (fewestV xs)) ∧ Below w.heap.size w w'
def PlanC : Prop := ∀ (v : Value) (xs : List Int) (w : World), IsInts w v xs → xs.length ≤ 9223372036854775807 → Calls Try.prog 40 #[v] w fun e w' => ∃ v', e = .returned v' ∧ IsPays w' v' (planL xs) ∧ Below w.heap.size w w'
def AfterC : Prop := ∀ (v u : Value) (xs : List Int) (st : List (Int × Int × Int)) (w : World), IsInts w v xs → xs.length ≤ 9223372036854775807 → IsPays w u st → st.length ≤ 9223372036854775807 → Calls Try.prog 44 #[v, u] w fun e w' => ∃ v', e = .returned (.tuple #[v', .bool (afterL xs st).isSome]) ∧ IsInts w' v' ((afterL xs st).getD []) ∧ Below w.heap.size w w'

theorem planL_facts {xs : List Int} (hv : vBal xs = true) : (planL xs).length ≤ 6 ∧ (xs.length : Int) ≤ gp xs (2 ^ xs.length - 1) + (planL xs).length ∧ ((planL xs).length ≤ kC xs xs.length - 1 ∨ (planL xs).length = 0) := by
  have hk := kC_nonneg xs xs.length
  obtain ⟨_, hn, _⟩ := (vBal_iff xs).1 hv
  have e : planL xs = planF xs.length xs := by rw [planL, if_pos hv]
  have h1 := plan_short xs.length xs hv hk.2
  have h2 := plan_groups xs.length xs hv hk.2
  rw [e]
  rcases h1 with h1 | h1
  · exact ⟨by omega, h2, .inl h1⟩
  · rw [h1] at h2 ⊢; exact ⟨by decide, h2, .inr rfl⟩

set_option maxRecDepth 100000 in
set_option maxHeartbeats 1600000 in
theorem FnFewestPays_of (GI : GroupsC) (FI : FewestC) (PI : PlanC) (a : Option Addr) (n cap : Nat) (w : World) (h : IsBytes w a n) (hc : n ≤ cap) :
    Calls Try.prog 7 #[.slice a n cap] w fun e w' => e = .returned (.bool true) ∧ Below w.heap.size w w' := by
  by_cases hbig : (1048576 : Int) < (n : Int)
  · clear GI FI PI
    go_enter Try.func7, Try.ntmps7
    go_wp2
    go_ret
    exact ⟨rfl, Below.refl _ _⟩
  · have HGI := Lib.hid GI
    have HFI := Lib.hid FI
    have HPI := Lib.hid PI
    clear GI FI PI
    go_enter Try.func7, Try.ntmps7
    go_wp2_with fail
    refine (DrawFewestPays_any a n cap w h hc).mono ?_
    rintro e w1 ⟨v, xs, rfl, o1, hb, b1⟩
    have hx6 := hb.1
    have hl : xs.length ≤ 9223372036854775807 := by omega
    go_wp2_with fail
    refine (HFI.out v xs _ o1.ints hl).mono ?_
    rintro e w2 ⟨rfl, hb2⟩
    have b2 : Below w.heap.size w w2 := b1.trans (hb2.mono b1.size)
    have o2 := o1.below hb2
    clear o1 hb2
    go_wp2_with fail
    refine (FewestPays_spec v xs _ o2.ints hl).mono ?_
    rintro e w3 ⟨rfl, hb3⟩
    have b3 : Below w.heap.size w w3 := b2.trans (hb3.mono b2.size)
    have o3 := o2.below hb3
    clear o2 hb3
    have hne : (fewestV xs != fewestV xs) = false := by simp
    have heq : (fewestV xs == fewestV xs) = true := by simp
    cases hv : vBal xs
    · have hg : fewestV xs = -1 := by rw [fewestV, hv]; rfl
      have hlt : fewestV xs < 0 := by omega
      have HS : Hid (∀ w', IsInts w' v xs → Calls Try.prog 39 #[v] w' fun e w'' => e = .returned (.int .i64 (fewestV xs)) ∧ Below w'.heap.size w' w'') := fun w' hi => FewestPays_spec v xs w' hi hl
      clear hg
      generalize fewestV xs = gv at *
      go_wp2_with fail
      refine (HS.out _ o3.ints).mono ?_
      rintro e w4 ⟨rfl, hb4⟩
      have b4 : Below w.heap.size w w4 := b3.trans (hb4.mono b3.size)
      go_wp2
      go_ret
      exact ⟨rfl, b4⟩
    · have hf : fewestV xs = xs.length - gp xs (2 ^ xs.length - 1) := by rw [fewestV, if_pos hv]
      have hg : groupsV xs = gp xs (2 ^ xs.length - 1) := by rw [groupsV, if_pos hv]
      obtain ⟨f1, f2, f3, f4, f5⟩ := groups_facts hv
      obtain ⟨p1, p2, p3⟩ := planL_facts hv
      rw [← hg] at f1 f3 p2 hf
      have HO := Lib.hid (fun w' (hi : IsInts w' v xs) => others_any v xs w' hi (by omega))
      have hn0 : ¬ fewestV xs < 0 := by omega
      have hsum : fewestV xs + groupsV xs = (xs.length : Int) := by omega
      have hpl : fewestV xs ≤ ((planL xs).length : Int) := by omega
      have hk2 : kC xs xs.length ≤ 2 * fewestV xs := by omega
      clear hg hv f2 p3
      have GQ : Hid (∀ w', IsInts w' v xs → Calls Try.prog 34 #[v] w' fun e w'' => e = .returned (.int .i64 (groupsV xs)) ∧ Below w'.heap.size w' w'') := fun w' hi => HGI.out v xs w' hi hl
      have PQ : Hid (∀ w', IsInts w' v xs → Calls Try.prog 40 #[v] w' fun e w'' => ∃ v', e = .returned v' ∧ IsPays w'' v' (planL xs) ∧ Below w'.heap.size w' w'') := fun w' hi => HPI.out v xs w' hi hl
      have hgb : 0 ≤ groupsV xs ∧ groupsV xs ≤ 6 := by omega
      have hfb : 0 ≤ fewestV xs ∧ fewestV xs ≤ 6 := by omega
      clear hf f1 f3 p2 HGI HFI HPI
      generalize fewestV xs = fv at *
      generalize groupsV xs = gv at *
      go_wp2_with fail
      refine (GQ.out _ o3.ints).mono ?_
      rintro e w4 ⟨rfl, hb4⟩
      have b4 : Below w.heap.size w w4 := b3.trans (hb4.mono b3.size)
      have o4 := o3.below hb4
      clear o3 hb4
      have heq2 : (fv + gv == (xs.length : Int)) = true := by simp [hsum]
      have HSM := Lib.hid hsum
      clear hsum
      have o4i := o4.ints
      obtain ⟨av, cv, rfl, _⟩ := o4i
      go_wp2_with fail
      refine (PQ.out _ o4.ints).mono ?_
      rintro e w5 ⟨z, rfl, hz, hb5⟩
      have b5 : Below w.heap.size w w5 := b4.trans (hb5.mono b4.size)
      have o5 := o4.below hb5
      obtain ⟨az, cz, rfl, _⟩ := hz
      clear o4 hb5
      go_wp2_with fail
      refine (HO.out _ o5.ints).mono ?_
      rintro e w' ⟨rfl, rfl⟩
      generalize kC xs xs.length = k at *
      go_wp2
      go_ret
      exact ⟨rfl, b5⟩

end Go.Proofs.Ytbedjebnllimpaa
