/- Rounded tables, in the model. -/
import Derived.Test.YtlibfmbbchhjeaaFits
namespace Go.Proofs.Ytlibfmbbchhjeaa
open Go.RowKit

def rowNear (g : List (List Int)) (u : Int) (o : List (List Int)) (i : Nat) : Bool := decide ((rowOf o i).length = (rowOf g 0).length) && (List.range (rowOf g 0).length).all (fun k => nearB (cellOf o i k) (cellOf g i k) u)

def roundS (g : List (List Int)) (u : Int) (o : List (List Int)) : Bool := vGrid g u && decide (o.length = g.length) && (List.range g.length).all (rowNear g u o) && fitsB g u o

theorem roundS_no {g o : List (List Int)} {u : Int} {i : Nat} (hi : i < g.length) (h : rowNear g u o i = false) : roundS g u o = false := by
  have : (List.range g.length).all (rowNear g u o) = false := by
    rw [List.all_eq_false]
    exact ⟨i, by simpa using hi, by simp [h]⟩
  rw [roundS, this]; simp
theorem rowNear_no {g o : List (List Int)} {u : Int} {i k : Nat} (hk : k < (rowOf g 0).length) (h : nearB (cellOf o i k) (cellOf g i k) u = false) : rowNear g u o i = false := by
  have : (List.range (rowOf g 0).length).all (fun k => nearB (cellOf o i k) (cellOf g i k) u) = false := by
    rw [List.all_eq_false]
    exact ⟨k, by simpa using hk, by simp [h]⟩
  rw [rowNear, this]; simp
theorem rowNear_iff {g o : List (List Int)} {u : Int} {i : Nat} : rowNear g u o i = true ↔ (rowOf o i).length = (rowOf g 0).length ∧ ∀ k, k < (rowOf g 0).length → nearB (cellOf o i k) (cellOf g i k) u = true := by
  simp [rowNear]
theorem roundS_yes {g o : List (List Int)} {u : Int} (h1 : vGrid g u = true) (h2 : o.length = g.length) (h3 : ∀ i, i < g.length → rowNear g u o i = true) : roundS g u o = fitsB g u o := by
  have : (List.range g.length).all (rowNear g u o) = true := by
    rw [List.all_eq_true]
    intro i hi
    exact h3 i (by simpa using hi)
  rw [roundS, h1, this, decide_eq_true h2]; rfl

theorem near_small {x p u : Int} (hu : 1 ≤ u ∧ u ≤ 12) (hp : 0 ≤ p ∧ p ≤ 50) (h : nearB x p u = true) : 0 ≤ x ∧ x ≤ 50 := by
  have h1 : 0 ≤ p / u := Int.ediv_nonneg hp.1 (by omega)
  have h2 : p / u ≤ p := Int.ediv_le_self _ hp.1
  have h3 : 0 ≤ (p + u - 1) / u := Int.ediv_nonneg (by omega) (by omega)
  have h4 : (p + u - 1) / u ≤ 50 := by
    have : (p + u - 1) / u < 51 := Int.ediv_lt_of_lt_mul (by omega) (by omega)
    omega
  rcases (nearB_iff hu.1).1 h with h | h <;> omega

theorem small_of_near {g o : List (List Int)} {u : Int} (h1 : vGrid g u = true) (h2 : o.length = g.length) (h3 : ∀ i, i < g.length → rowNear g u o i = true) : Small o (rowOf g 0).length := by
  have hs := small_vGrid h1
  have hu := ((vGrid_iff g u).1 h1).2.1
  refine ⟨by rw [h2]; exact hs.1, hs.2.1, fun i hi => ?_⟩
  rw [h2] at hi
  obtain ⟨h4, h5⟩ := rowNear_iff.1 (h3 i hi)
  exact ⟨h4, fun k hk => near_small hu ((hs.2.2 i hi).2 k hk) (h5 k hk)⟩

set_option maxRecDepth 100000 in
set_option maxHeartbeats 3200000 in
theorem isRounded_spec (v z : Value) (g o : List (List Int)) (u : Int) (w : World) (hv : IsGrid w v g) (hz : IsGrid w z o) (hl : g.length ≤ 9223372036854775807) (hr : ∀ i, i < g.length → (rowOf g i).length ≤ 9223372036854775807) :
    Calls Try.prog 36 #[v, .int .i64 u, z] w fun e w' => e = .returned (.bool (roundS g u o)) ∧ Drawn w w' := by
  obtain ⟨a, cap, rfl, _⟩ := id hv
  obtain ⟨a2, cap2, rfl, _⟩ := id hz
  cases h1 : vGrid g u
  · go_enter Try.func36, Try.ntmps36
    go_wp2_with (go_at_call 74; refine (validGrid_spec _ _ _ _ hv hl hr).mono ?_; rintro e w' ⟨rfl, nd, rfl⟩)
    go_ret
    exact ⟨ret_bool (by rw [roundS, h1]; rfl), ⟨_, rfl⟩⟩
  · by_cases h2 : o.length = g.length
    · have hne : ((o.length : Int) != (g.length : Int)) = false := by simp; omega
      have HL := Lib.hid h2
      have hg := small_vGrid h1
      have hu := ((vGrid_iff g u).1 h1).2.1
      clear h2
      go_enter Try.func36, Try.ntmps36
      go_wp2_with (go_at_call 74; refine (validGrid_spec _ _ _ _ hv hl hr).mono ?_; rintro e w' ⟨rfl, nd, rfl⟩)
      have hd0 : Drawn w (w.drewN nd) := ⟨_, rfl⟩
      generalize w.drewN nd = w0 at *
      go_loopw [7] (fun s wr => ∃ i : Nat, i ≤ g.length ∧ s = .int .i64 i ∧ (∀ j, j < i → rowNear g u o j = true) ∧ Drawn w wr) (fun s _ => g.length - (intOf s).toNat)
      case atStart => exact ⟨0, Nat.zero_le _, rfl, fun j hj => by omega, hd0⟩
      case round =>
        clear hd0
        obtain ⟨i, hi, rfl, hok, hdr⟩ := hrel
        have HOK := Lib.hid hok
        clear hok
        by_cases hlt : i < g.length
        · have hlo : i < o.length := by rw [HL.out]; exact hlt
          obtain ⟨b, off, ar0, cr0, rfl, c0, _⟩ := (hv.below hdr.below).row 0 (by omega)
          rw [Nat.add_zero] at c0
          obtain ⟨b2, off2, ar2, cr2, rfl, c2, _⟩ := (hz.below hdr.below).row i hlo
          have i1 : (i : Int) < (o.length : Int) := by omega
          have i2 : (i : Int) < (g.length : Int) := by omega
          have g0 : 0 < g.length := by omega
          have gn : g ≠ [] := by intro hg; rw [hg] at g0; exact absurd g0 (by decide)
          have hn := hg.2.1
          by_cases hsame : (rowOf o i).length = (rowOf g 0).length
          · have hne2 : (((rowOf o i).length : Int) != ((rowOf g 0).length : Int)) = false := by simp; omega
            have HSM := Lib.hid hsame
            clear hsame
            go_wp2
            go_quiet (fail)
            have hdq := hdr.more nq
            have HDQ := Lib.hid hdq
            clear hdq hdr c0 c2
            generalize wr.drewN nq = wq at *
            go_wp2
            go_loopw [8] (fun s wr => ∃ k : Nat, k ≤ (rowOf g 0).length ∧ s = .int .i64 k ∧ (∀ j, j < k → nearB (cellOf o i j) (cellOf g i j) u = true) ∧ Drawn w wr) (fun s _ => (rowOf g 0).length - (intOf s).toNat)
            case atStart => exact ⟨0, Nat.zero_le _, rfl, fun j hj => by omega, HDQ.out⟩
            case round =>
              obtain ⟨k, hk, rfl, hck, hdk⟩ := hrel
              have HCK := Lib.hid hck
              clear hck
              obtain ⟨b', off', ar, cr, e', ci, cc⟩ := (hv.below hdk.below).row i hlt
              simp only [Option.some.injEq, Addr.mk.injEq, and_true] at e'
              obtain ⟨rfl, rfl⟩ := e'
              obtain ⟨b', off', ar3, cr3, e', c2, cc2⟩ := (hz.below hdk.below).row i hlo
              simp only [Option.some.injEq, Addr.mk.injEq, and_true] at e'
              obtain ⟨rfl, rfl⟩ := e'
              have hrow := (hg.2.2 i hlt).1
              by_cases hlk : k < (rowOf g 0).length
              · obtain ⟨br, fr, rfl, ck⟩ := cc k (by rw [hrow]; exact hlk)
                obtain ⟨br2, fr2, rfl, ck2⟩ := cc2 k (by rw [HSM.out]; exact hlk)
                have k1 : (k : Int) < ((rowOf g i).length : Int) := by rw [hrow]; omega
                have k2 : (k : Int) < ((rowOf o i).length : Int) := by rw [HSM.out]; omega
                have hx := (hg.2.2 i hlt).2 k hlk
                clear cc cc2 hrow
                have N1 : ∀ q, Calls Try.prog 75 #[.int .i64 (cellOf o i k), .int .i64 (cellOf g i k), .int .i64 u] (wr.drewN q) fun e w' => e = .returned (.bool (nearB (cellOf o i k) (cellOf g i k) u)) ∧ ∃ m, w' = wr.drewN m := fun q => quiet_left (near_spec _ _ _ _ (by omega) hu)
                cases hnear : nearB (cellOf o i k) (cellOf g i k) u
                · rw [hnear] at N1
                  have HN := Lib.hid N1
                  have HF := Lib.hid (roundS_no hlt (rowNear_no hlk hnear))
                  clear N1 hnear
                  go_wp2
                  go_quiet ((go_at_call 75; with_reducible exact HN.out _))
                  go_wp2
                  go_ret
                  exact ⟨ret_bool HF.out.symm, hdk.more _⟩
                · rw [hnear] at N1
                  have HN := Lib.hid N1
                  have HC := Lib.hid hnear
                  clear N1 hnear
                  go_wp2
                  go_quiet ((go_at_call 75; with_reducible exact HN.out _))
                  go_wp2
                  go_roundw
                  case rel =>
                    refine ⟨k + 1, by omega, by go_num, fun j hj => ?_, hdk.more _⟩
                    by_cases hjk : j = k
                    · subst hjk; exact HC.out
                    · exact HCK.out j (by omega)
                  case measure => simp [intOf]; omega
              · have HR : Hid (rowNear g u o i = true) := rowNear_iff.2 ⟨HSM.out, fun j hj => HCK.out j (by omega)⟩
                have k2 : ¬ (k : Int) < ((rowOf o i).length : Int) := by rw [HSM.out]; omega
                clear cc cc2 hrow
                go_wp2
                go_roundw
                case rel =>
                  refine ⟨i + 1, by omega, by go_num, fun j hj => ?_, hdk⟩
                  by_cases hji : j = i
                  · subst hji; exact HR.out
                  · exact HOK.out j (by omega)
                case measure => simp [intOf]; omega
          · have hne2 : (((rowOf o i).length : Int) != ((rowOf g 0).length : Int)) = true := by simp; omega
            have HF : Hid (roundS g u o = false) := roundS_no hlt (by unfold rowNear; rw [decide_eq_false hsame]; rfl)
            clear hsame
            go_wp2
            go_quiet (fail)
            go_wp2
            go_ret
            exact ⟨ret_bool HF.out.symm, hdr.more _⟩
        · have hall : ∀ j, j < g.length → rowNear g u o j = true := fun j hj => HOK.out j (by omega)
          have ho := small_of_near h1 HL.out hall
          have HF := Lib.hid (roundS_yes h1 HL.out hall)
          clear hall
          have i1 : ¬ (i : Int) < (o.length : Int) := by rw [HL.out]; omega
          have F1 : Hid (Calls Try.prog 76 #[.slice a g.length cap, .int .i64 u, .slice a2 o.length cap2] wr fun e w' => e = .returned (.bool (fitsB g u o)) ∧ Drawn wr w') := fits_spec _ _ _ _ _ _ (hv.below hdr.below) (hz.below hdr.below) hu hg ho HL.out
          go_wp2_with (go_at_call 76; refine Calls.mono (by with_reducible exact F1.out) ?_; rintro e w' ⟨rfl, hdf⟩)
          go_ret
          exact ⟨ret_bool HF.out.symm, hdr.trans hdf⟩
    · have hne : ((o.length : Int) != (g.length : Int)) = true := by simp; omega
      go_enter Try.func36, Try.ntmps36
      go_wp2_with (go_at_call 74; refine (validGrid_spec _ _ _ _ hv hl hr).mono ?_; rintro e w' ⟨rfl, nd, rfl⟩)
      go_ret
      exact ⟨ret_bool (by rw [roundS, decide_eq_false h2]; simp), ⟨_, rfl⟩⟩

end Go.Proofs.Ytlibfmbbchhjeaa
