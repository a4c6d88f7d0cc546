/- The values of coins, in the program. -/
import Derived.Test.YtbkndncdhombeaaCoinV
import Derived.Test.YtbkndncdhombeaaCoinT
import Derived.Test.YtbkndncdhombeaaBack
namespace Go.Proofs.Ytbkndncdhombeaa
open Go.RowKit

theorem vc_len_no {cs : List Int} (h : inR cs.length 1 5 = false) : vCoins cs = false := by unfold vCoins; rw [h]; rfl

theorem vc_all_no {cs : List Int} (h : allR cs 1 30 = false) : vCoins cs = false := by
  unfold allR at h
  rw [List.all_eq_false] at h
  obtain ⟨x, hx, hf⟩ := h
  obtain ⟨i, hi, rfl⟩ := mem_getD hx
  refine vCoins_no hi ?_
  unfold okC
  have : inR (cs.getD i 0) 1 30 = false := by simpa using hf
  rw [this]; rfl

theorem vc_step_no {cs : List Int} {i : Nat} (h0 : 0 < i) (hi : i < cs.length) (h : cs.getD i 0 ≤ cs.getD (i - 1) 0) : vCoins cs = false := by
  refine vCoins_no hi ?_
  unfold okC
  rw [decide_eq_false (show ¬ i = 0 by omega), decide_eq_false (show ¬ cs.getD (i - 1) 0 < cs.getD i 0 by omega)]
  simp

theorem vc_yes {cs : List Int} (h1 : inR cs.length 1 5 = true) (h2 : allR cs 1 30 = true) (h3 : ∀ i, 0 < i → i < cs.length → cs.getD (i - 1) 0 < cs.getD i 0) : vCoins cs = true := by
  refine vCoins_iff.2 ⟨by have := inR_true h1; omega, fun i hi => ?_⟩
  unfold okC
  have h4 := allR_true h2 _ (getD_mem hi)
  rw [show inR (cs.getD i 0) 1 30 = true from by unfold inR; exact decide_eq_true h4, Bool.true_and, Bool.or_eq_true, decide_eq_true_iff, decide_eq_true_iff]
  by_cases h0 : i = 0
  · exact .inl h0
  · exact .inr (h3 i (by omega) hi)

theorem inRange_iat (x lo hi : Int) (r : Bool) (w : World) (h : inR x lo hi = r) : Calls Try.prog 43 #[.int .i64 x, .int .i64 lo, .int .i64 hi] w fun e w' => e = .returned (.bool r) ∧ w = w' := by
  subst h; exact inRange_impl _ _ _ _

theorem allInRange_at (v : Value) (xs : List Int) (lo hi : Int) (r : Bool) (w : World) (hv : IsInts w v xs) (hl : xs.length ≤ 9223372036854775807) (h : allR xs lo hi = r) : Calls Try.prog 44 #[v, .int .i64 lo, .int .i64 hi] w fun e w' => e = .returned (.bool r) ∧ w = w' := by
  subst h; exact allInRange_impl _ _ _ _ _ hv hl

set_option maxRecDepth 100000 in
set_option maxHeartbeats 1600000 in
theorem ValidCoins_impl (v : Value) (cs : List Int) (w : World) (hv : IsInts w v cs) (hl : cs.length ≤ 9223372036854775807) :
    Calls Try.prog 16 #[v] w fun e w' => e = .returned (.bool (vCoins cs)) ∧ Drawn w w' := by
  have HCC := Lib.hid inRange_iat
  have HAA := Lib.hid (fun r => allInRange_at v cs 1 30 r w hv hl)
  cases h1 : inR cs.length 1 5
  · have E := Lib.hid (vc_len_no h1)
    obtain ⟨a, cap, rfl, hc⟩ := hv
    go_enter Try.func16, Try.ntmps16
    go_wp2_with (go_at_call 43; refine (HCC.out _ _ _ _ _ h1).mono ?_; rintro e w' ⟨rfl, rfl⟩)
    go_ret
    exact ⟨ret_bool E.out.symm, Drawn.refl _⟩
  cases h2 : allR cs 1 30
  · have E := Lib.hid (vc_all_no h2)
    obtain ⟨a, cap, rfl, hc⟩ := hv
    go_enter Try.func16, Try.ntmps16
    go_wp2_with (first | (go_at_call 43; refine (HCC.out _ _ _ _ _ h1).mono ?_; rintro e w' ⟨rfl, rfl⟩) | (go_at_call 44; refine (HAA.out _ h2).mono ?_; rintro e w' ⟨rfl, rfl⟩))
    go_ret
    exact ⟨ret_bool E.out.symm, Drawn.refl _⟩
  · have b1 := inR_true h1
    obtain ⟨b, off, cap, rfl, hbw, hc⟩ := hv.at0 (by omega)
    have HC := Lib.hid hc
    have HNO : Hid (∀ i, 0 < i → i < cs.length → cs.getD i 0 ≤ cs.getD (i - 1) 0 → vCoins cs = false) := fun i => vc_step_no
    have HY : Hid ((∀ i, 0 < i → i < cs.length → cs.getD (i - 1) 0 < cs.getD i 0) → vCoins cs = true) := vc_yes h1 h2
    have H1 := Lib.hid h1
    have H2 := Lib.hid h2
    clear hc hv h1 h2
    go_enter Try.func16, Try.ntmps16
    go_wp2_with (first | (go_at_call 43; refine (HCC.out _ _ _ _ _ H1.out).mono ?_; rintro e w' ⟨rfl, rfl⟩) | (go_at_call 44; refine (HAA.out _ H2.out).mono ?_; rintro e w' ⟨rfl, rfl⟩))
    go_loopw [3] (fun iv wr => ∃ i : Nat, 1 ≤ i ∧ i ≤ cs.length ∧ iv = .int .i64 i ∧ (∀ j, 0 < j → j < i → cs.getD (j - 1) 0 < cs.getD j 0) ∧ Drawn w wr) (fun iv _ => cs.length - (intOf iv).toNat)
    case atStart => exact ⟨1, Nat.le_refl _, by omega, rfl, fun j h1 h2 => by omega, Drawn.refl _⟩
    case round =>
      obtain ⟨i, hi1, hi, rfl, hok, hd⟩ := hrel
      rename World => wr
      have HOK := Lib.hid hok
      clear hok
      by_cases hlt : i < cs.length
      · have i1 : (i : Int) < (cs.length : Int) := by omega
        have m1 : (0 : Int) ≤ (i : Int) - 1 := by omega
        have m2 : (i : Int) - 1 < (cs.length : Int) := by omega
        have m3 : ((i : Int) - 1).toNat = i - 1 := by omega
        have m4 : 1 ≤ (i : Int) := by omega
        have c1 := (hd.cell ⟨b, off + i, none⟩).trans (HC.out i hlt)
        have c2 := (hd.cell ⟨b, off + (i - 1), none⟩).trans (HC.out (i - 1) (by omega))
        have HN := Lib.hid (HNO.out i (by omega) hlt)
        have HR : Hid (cs.getD (i - 1) 0 < cs.getD i 0 → ∀ j, 0 < j → j < i + 1 → cs.getD (j - 1) 0 < cs.getD j 0) := fun h j h1 h2 => by
          by_cases e : j = i
          · rw [e]; exact h
          · exact HOK.out j h1 (by omega)
        clear HOK HNO HY
        generalize cs.getD i 0 = x at *
        generalize cs.getD (i - 1) 0 = y at *
        by_cases hle : x ≤ y
        · have E := Lib.hid (HN.out hle)
          go_wp2
          go_quiet (fail)
          go_wp2
          go_ret
          exact ⟨ret_bool E.out.symm, hd.more _⟩
        · have d1 : decide (x ≤ y) = false := decide_eq_false hle
          have HR2 := Lib.hid (HR.out (by omega))
          go_wp2
          go_quiet (fail)
          go_wp2
          go_roundw
          case rel => exact ⟨i + 1, by omega, by omega, by go_num, HR2.out, hd.more _⟩
          case measure => simp [intOf]; omega
      · have hie : i = cs.length := by omega
        subst hie
        have E := Lib.hid (HY.out (fun j h1 h2 => HOK.out j h1 h2))
        go_wp2
        go_ret
        exact ⟨ret_bool E.out.symm, hd⟩

theorem ValidCoins_iat (v : Value) (cs : List Int) (r : Bool) (w : World) (hv : IsInts w v cs) (hl : cs.length ≤ 9223372036854775807) (h : vCoins cs = r) :
    Calls Try.prog 16 #[v] w fun e w' => e = .returned (.bool r) ∧ Drawn w w' := by
  subst h; exact ValidCoins_impl _ _ _ hv hl

set_option maxRecDepth 100000 in
set_option maxHeartbeats 1600000 in
theorem canPayBy_impl (v : Value) (cs : List Int) (a : Int) (w : World) (hv : IsInts w v cs) (hl : cs.length ≤ 9223372036854775807) :
    Calls Try.prog 47 #[v, .int .i64 a] w fun e w' => e = .returned (.bool (vCoins cs && inR a 0 120)) ∧ Drawn w w' := by
  have HVC := Lib.hid (fun r => ValidCoins_iat v cs r w hv hl)
  have HCC := Lib.hid inRange_iat
  cases h1 : vCoins cs
  · go_enter Try.func47, Try.ntmps47
    go_wp2_with (go_at_call 16; refine (HVC.out _ h1).mono ?_; rintro e w' ⟨rfl, hd⟩)
    go_ret
    exact ⟨rfl, hd⟩
  · cases h2 : inR a 0 120 <;>
    · go_enter Try.func47, Try.ntmps47
      go_wp2_with (first | (go_at_call 16; refine (HVC.out _ h1).mono ?_; rintro e w' ⟨rfl, hd⟩) | (go_at_call 43; refine (HCC.out _ _ _ _ _ h2).mono ?_; rintro e w' ⟨rfl, rfl⟩))
      go_ret
      exact ⟨rfl, hd⟩

theorem canPayBy_at (v : Value) (cs : List Int) (a : Int) (r : Bool) (w : World) (hv : IsInts w v cs) (hl : cs.length ≤ 9223372036854775807) (h : (vCoins cs && inR a 0 120) = r) :
    Calls Try.prog 47 #[v, .int .i64 a] w fun e w' => e = .returned (.bool r) ∧ Drawn w w' := by
  subst h; exact canPayBy_impl _ _ _ _ hv hl

end Go.Proofs.Ytbkndncdhombeaa
