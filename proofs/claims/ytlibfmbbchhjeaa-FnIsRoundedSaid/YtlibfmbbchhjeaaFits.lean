/- Rounded tables, in the model: the sums. -/
import Derived.Test.YtlibfmbbchhjeaaIsR
namespace Go.Proofs.Ytlibfmbbchhjeaa
open Go.RowKit

/-- The sum of the first m numbers of column k. -/
def colS (g : List (List Int)) (k : Nat) : Nat → Int
  | 0 => 0
  | m + 1 => colS g k m + cellOf g m k
/-- The sum of the first m rows. -/
def allS (g : List (List Int)) : Nat → Int
  | 0 => 0
  | m + 1 => allS g m + tot (rowOf g m)

/-- A table of n columns with small numbers. -/
def Small (g : List (List Int)) (n : Nat) : Prop := (1 ≤ g.length ∧ g.length ≤ 3) ∧ (1 ≤ n ∧ n ≤ 3) ∧ ∀ i, i < g.length → (rowOf g i).length = n ∧ ∀ k, k < n → 0 ≤ cellOf g i k ∧ cellOf g i k ≤ 50

theorem small_vGrid {g : List (List Int)} {u : Int} (h : vGrid g u = true) : Small g (rowOf g 0).length := by
  obtain ⟨h1, _, h3⟩ := (vGrid_iff g u).1 h
  have h0 := (h3 0 (by omega)).2.1
  exact ⟨h1, h0, fun i hi => ⟨(h3 i hi).1, fun k hk => (h3 i hi).2.2 k (by rw [(h3 i hi).1]; exact hk)⟩⟩

theorem Small.mem {g : List (List Int)} {n : Nat} (h : Small g n) {i : Nat} (hi : i < g.length) : ∀ x ∈ rowOf g i, 0 ≤ x ∧ x ≤ 50 := by
  intro x hx
  obtain ⟨k, hk, rfl⟩ := List.getElem_of_mem hx
  have := (h.2.2 i hi).2 k (by rw [← (h.2.2 i hi).1]; exact hk)
  unfold cellOf at this
  simpa [List.getD, hk] using this
theorem Small.row {g : List (List Int)} {n : Nat} (h : Small g n) {i : Nat} (hi : i < g.length) : 0 ≤ tot (rowOf g i) ∧ tot (rowOf g i) ≤ 150 := by
  have h1 := tot_bounds (rowOf g i) 50 (h.mem hi)
  have h2 := (h.2.2 i hi).1
  have h3 := h.2.1
  omega
theorem Small.all {g : List (List Int)} {n : Nat} (h : Small g n) : ∀ m, m ≤ g.length → 0 ≤ allS g m ∧ allS g m ≤ 150 * m
  | 0, _ => by simp [allS]
  | m + 1, hm => by
    have h1 := h.all m (by omega)
    have h2 := h.row (i := m) (by omega)
    show 0 ≤ allS g m + tot (rowOf g m) ∧ allS g m + tot (rowOf g m) ≤ 150 * ((m + 1 : Nat) : Int)
    omega
theorem Small.col {g : List (List Int)} {n : Nat} (h : Small g n) {k : Nat} (hk : k < n) : ∀ m, m ≤ g.length → 0 ≤ colS g k m ∧ colS g k m ≤ 50 * m
  | 0, _ => by simp [colS]
  | m + 1, hm => by
    have h1 := h.col hk m (by omega)
    have h2 := (h.2.2 m (by omega)).2 k hk
    show 0 ≤ colS g k m + cellOf g m k ∧ colS g k m + cellOf g m k ≤ 50 * ((m + 1 : Nat) : Int)
    omega
theorem Small.sumFits {g : List (List Int)} {n : Nat} (h : Small g n) {i : Nat} (hi : i < g.length) : SumFits (rowOf g i) := by
  intro k
  have h1 := tot_bounds ((rowOf g i).take k) 50 (fun x hx => h.mem hi x (List.mem_of_mem_take hx))
  have h2 := (h.2.2 i hi).1
  have h3 := h.2.1
  have h4 : ((rowOf g i).take k).length ≤ 3 := by rw [List.length_take]; omega
  omega

def fitsB (g : List (List Int)) (u : Int) (o : List (List Int)) : Bool :=
  (List.range g.length).all (fun i => nearB (tot (rowOf o i)) (tot (rowOf g i)) u) && (List.range (rowOf g 0).length).all (fun k => nearB (colS o k g.length) (colS g k g.length) u) && nearB (allS o g.length) (allS g g.length) u

theorem fitsB_no1 {g o : List (List Int)} {u : Int} {i : Nat} (hi : i < g.length) (h : nearB (tot (rowOf o i)) (tot (rowOf g i)) u = false) : fitsB g u o = false := by
  have : (List.range g.length).all (fun i => nearB (tot (rowOf o i)) (tot (rowOf g i)) u) = false := by
    rw [List.all_eq_false]
    exact ⟨i, by simpa using hi, by simp [h]⟩
  rw [fitsB, this]; rfl
theorem fitsB_no2 {g o : List (List Int)} {u : Int} {k : Nat} (hk : k < (rowOf g 0).length) (h : nearB (colS o k g.length) (colS g k g.length) u = false) : fitsB g u o = false := by
  have : (List.range (rowOf g 0).length).all (fun k => nearB (colS o k g.length) (colS g k g.length) u) = false := by
    rw [List.all_eq_false]
    exact ⟨k, by simpa using hk, by simp [h]⟩
  rw [fitsB, this]; simp
theorem fitsB_yes {g o : List (List Int)} {u : Int} (h1 : ∀ i, i < g.length → nearB (tot (rowOf o i)) (tot (rowOf g i)) u = true) (h2 : ∀ k, k < (rowOf g 0).length → nearB (colS o k g.length) (colS g k g.length) u = true) : fitsB g u o = nearB (allS o g.length) (allS g g.length) u := by
  have e1 : (List.range g.length).all (fun i => nearB (tot (rowOf o i)) (tot (rowOf g i)) u) = true := by
    rw [List.all_eq_true]
    intro i hi
    exact h1 i (by simpa using hi)
  have e2 : (List.range (rowOf g 0).length).all (fun k => nearB (colS o k g.length) (colS g k g.length) u) = true := by
    rw [List.all_eq_true]
    intro i hi
    exact h2 i (by simpa using hi)
  rw [fitsB, e1, e2]; rfl

set_option maxRecDepth 100000 in
set_option maxHeartbeats 1600000 in
theorem fits_spec (v z : Value) (g o : List (List Int)) (u : Int) (w : World) (hv : IsGrid w v g) (hz : IsGrid w z o) (hu : 1 ≤ u ∧ u ≤ 12) (hg : Small g (rowOf g 0).length) (ho : Small o (rowOf g 0).length) (hlen : o.length = g.length) :
    Calls Try.prog 76 #[v, .int .i64 u, z] w fun e w' => e = .returned (.bool (fitsB g u o)) ∧ Drawn w w' := by
  obtain ⟨a, cap, rfl, _⟩ := id hv
  obtain ⟨a2, cap2, rfl, _⟩ := id hz
  have hl3 := hg.1
  have HL := Lib.hid hlen
  clear hlen
  go_enter Try.func76, Try.ntmps76
  go_wp2
  go_loopw [9, 7, 8] (fun s c d wr => ∃ i : Nat, i ≤ g.length ∧ s = .int .i64 i ∧ c = .int .i64 (allS g i) ∧ d = .int .i64 (allS o i) ∧ (∀ j, j < i → nearB (tot (rowOf o j)) (tot (rowOf g j)) u = true) ∧ Drawn w wr) (fun s _ _ _ => g.length - (intOf s).toNat)
  case atStart => exact ⟨0, Nat.zero_le _, rfl, rfl, rfl, fun j hj => by omega, Drawn.refl _⟩
  case round =>
    obtain ⟨i, hi, rfl, rfl, rfl, hok, hdr⟩ := hrel
    have HOK := Lib.hid hok
    clear hok
    by_cases hlt : i < g.length
    · have hvr := hv.below hdr.below
      have hzr := hz.below hdr.below
      obtain ⟨b, off, ar, cr, rfl, ci, cc⟩ := hvr.row i hlt
      obtain ⟨b2, off2, ar2, cr2, rfl, c2, cc2⟩ := hzr.row i (by rw [HL.out]; exact hlt)
      have hlo : i < o.length := by rw [HL.out]; exact hlt
      have hs1 := hg.row hlt
      have hs2 := ho.row hlo
      have hf1 := hg.sumFits hlt
      have hf2 := ho.sumFits hlo
      have hn1 := (hg.2.2 i hlt).1
      have hn2 := (ho.2.2 i hlo).1
      have ha1 := hg.all i (by omega)
      have ha2 := ho.all i (Nat.le_of_lt hlo)
      have hn := hg.2.1
      have hq1 : (rowOf g i).length ≤ 9223372036854775807 := by omega
      have hq2 : (rowOf o i).length ≤ 9223372036854775807 := by omega
      clear hn1 hn2
      have i1 : (i : Int) < (g.length : Int) := by omega
      have i2 : (i : Int) < (o.length : Int) := by omega
      have r1 : IsInts wr (.slice ar (rowOf g i).length cr) (rowOf g i) := ⟨ar, cr, rfl, cc⟩
      have r2 : IsInts wr (.slice ar2 (rowOf o i).length cr2) (rowOf o i) := ⟨ar2, cr2, rfl, cc2⟩
      clear cc cc2
      have HF1 := Lib.hid hf1
      have HF2 := Lib.hid hf2
      clear hf1 hf2
      have S1 : Hid (∀ q, Calls Try.prog 68 #[.slice ar (rowOf g i).length cr] (wr.drewN q) fun e w' => e = .returned (.int .i64 (tot (rowOf g i))) ∧ ∃ m, w' = wr.drewN m) := fun q => quiet_left (sum_spec _ _ _ (r1.below (below_drewN (Below.refl _ _) q)) hq1 HF1.out)
      have S2 : Hid (∀ q, Calls Try.prog 68 #[.slice ar2 (rowOf o i).length cr2] (wr.drewN q) fun e w' => e = .returned (.int .i64 (tot (rowOf o i))) ∧ ∃ m, w' = wr.drewN m) := fun q => quiet_left (sum_spec _ _ _ (r2.below (below_drewN (Below.refl _ _) q)) hq2 HF2.out)
      have N1 : Hid (∀ q, Calls Try.prog 75 #[.int .i64 (tot (rowOf o i)), .int .i64 (tot (rowOf g i)), .int .i64 u] (wr.drewN q) fun e w' => e = .returned (.bool (nearB (tot (rowOf o i)) (tot (rowOf g i)) u)) ∧ ∃ m, w' = wr.drewN m) := fun q => quiet_left (near_spec _ _ _ _ (by omega) hu)
      cases hnear : nearB (tot (rowOf o i)) (tot (rowOf g i)) u
      · rw [hnear] at N1
        have HF := Lib.hid (fitsB_no1 hlt hnear)
        go_wp2
        go_quiet (first | (go_at_call 68; first | with_reducible exact S1.out _ | with_reducible exact S2.out _) | (go_at_call 75; with_reducible exact N1.out _))
        go_wp2
        go_ret
        exact ⟨ret_bool HF.out.symm, hdr.more _⟩
      · rw [hnear] at N1
        go_wp2
        go_quiet (first | (go_at_call 68; first | with_reducible exact S1.out _ | with_reducible exact S2.out _) | (go_at_call 75; with_reducible exact N1.out _))
        have hdq := hdr.more nq
        have HDQ := Lib.hid hdq
        have q1 : IsInts (wr.drewN nq) (.slice ar (rowOf g i).length cr) (rowOf g i) := r1.below (below_drewN (Below.refl _ _) nq)
        have q2 : IsInts (wr.drewN nq) (.slice ar2 (rowOf o i).length cr2) (rowOf o i) := r2.below (below_drewN (Below.refl _ _) nq)
        have d1 : (wr.drewN nq).cell? ⟨b, off + i, none⟩ = some (.slice ar (rowOf g i).length cr) := ci
        have d2 : (wr.drewN nq).cell? ⟨b2, off2 + i, none⟩ = some (.slice ar2 (rowOf o i).length cr2) := c2
        clear hdq hdr S1 S2 N1 hvr hzr ci c2 r1 r2
        generalize wr.drewN nq = wq at *
        have S1 : Calls Try.prog 68 #[.slice ar (rowOf g i).length cr] wq fun e w' => e = .returned (.int .i64 (tot (rowOf g i))) ∧ wq = w' := sum_spec _ _ _ q1 hq1 HF1.out
        have S2 : Calls Try.prog 68 #[.slice ar2 (rowOf o i).length cr2] wq fun e w' => e = .returned (.int .i64 (tot (rowOf o i))) ∧ wq = w' := sum_spec _ _ _ q2 hq2 HF2.out
        have h1 := Lib.hid S1
        have h2 := Lib.hid S2
        clear S1 S2 q1 q2
        have hb1 : -9223372036854775808 ≤ allS g i + tot (rowOf g i) ∧ allS g i + tot (rowOf g i) ≤ 9223372036854775807 := by omega
        have hb2 : -9223372036854775808 ≤ allS o i + tot (rowOf o i) ∧ allS o i + tot (rowOf o i) ≤ 9223372036854775807 := by omega
        go_wp2_with (go_at_call 68; (first | (refine Calls.mono (by with_reducible exact h1.out) ?_) | (refine Calls.mono (by with_reducible exact h2.out) ?_)); rintro e w' ⟨rfl, rfl⟩)
        go_roundw
        case rel =>
          refine ⟨i + 1, by omega, by go_num, by show _ = Value.int .i64 (allS g i + tot (rowOf g i)); go_num, by show _ = Value.int .i64 (allS o i + tot (rowOf o i)); go_num, fun j hj => ?_, HDQ.out⟩
          by_cases hji : j = i
          · subst hji; exact hnear
          · exact HOK.out j (by omega)
        case measure => simp [intOf]; omega
    · have hie : i = g.length := by omega
      subst hie
      go_wp2
      go_loopw [10] (fun s wr => ∃ k : Nat, k ≤ (rowOf g 0).length ∧ s = .int .i64 k ∧ (∀ j, j < k → nearB (colS o j g.length) (colS g j g.length) u = true) ∧ Drawn w wr) (fun s _ => (rowOf g 0).length - (intOf s).toNat)
      case atStart => exact ⟨0, Nat.zero_le _, rfl, fun j hj => by omega, hdr⟩
      case round =>
        clear hdr
        obtain ⟨k, hk, rfl, hokc, hdr⟩ := hrel
        have HOC := Lib.hid hokc
        clear hokc
        have hvr := hv.below hdr.below
        obtain ⟨b, off, ar, cr, rfl, ci, _⟩ := hvr.row 0 (by omega)
        rw [Nat.add_zero] at ci
        have g0 : 0 < g.length := by omega
        have gn : g ≠ [] := by intro hg; rw [hg] at g0; exact absurd g0 (by decide)
        have hn := hg.2.1
        clear hvr
        by_cases hlk : k < (rowOf g 0).length
        · have k1 : (k : Int) < ((rowOf g 0).length : Int) := by omega
          go_wp2
          go_loopw [13, 11, 12] (fun s c d wr => ∃ m : Nat, m ≤ g.length ∧ s = .int .i64 m ∧ c = .int .i64 (colS g k m) ∧ d = .int .i64 (colS o k m) ∧ Drawn w wr) (fun s _ _ _ => g.length - (intOf s).toNat)
          case atStart => exact ⟨0, Nat.zero_le _, rfl, rfl, rfl, hdr⟩
          case round =>
            clear hdr ci
            obtain ⟨m, hm, rfl, rfl, rfl, hdr⟩ := hrel
            by_cases hlm : m < g.length
            · have hlmo : m < o.length := by rw [HL.out]; exact hlm
              have hvr := hv.below hdr.below
              have hzr := hz.below hdr.below
              obtain ⟨b', off', ar', cr', e', ci, cc⟩ := hvr.row m hlm
              simp only [Option.some.injEq, Addr.mk.injEq, and_true] at e'
              obtain ⟨rfl, rfl⟩ := e'
              obtain ⟨b2, off2, ar2, cr2, rfl, c2, cc2⟩ := hzr.row m hlmo
              have hn1 := (hg.2.2 m hlm).1
              have hn2 := (ho.2.2 m hlmo).1
              obtain ⟨br, fr, rfl, ck⟩ := cc k (by rw [hn1]; exact hlk)
              obtain ⟨br2, fr2, rfl, ck2⟩ := cc2 k (by rw [hn2]; exact hlk)
              have k1a : (k : Int) < ((rowOf g m).length : Int) := by rw [hn1]; exact k1
              have k1b : (k : Int) < ((rowOf o m).length : Int) := by rw [hn2]; exact k1
              have m1 : (m : Int) < (g.length : Int) := by omega
              have m2 : (m : Int) < (o.length : Int) := by omega
              have hc1 := hg.col hlk m (by omega)
              have hc2 := ho.col hlk m (by omega)
              have hx1 := (hg.2.2 m hlm).2 k hlk
              have hx2 := (ho.2.2 m hlmo).2 k hlk
              have hb1 : -9223372036854775808 ≤ colS g k m + cellOf g m k ∧ colS g k m + cellOf g m k ≤ 9223372036854775807 := by omega
              have hb2 : -9223372036854775808 ≤ colS o k m + cellOf o m k ∧ colS o k m + cellOf o m k ≤ 9223372036854775807 := by omega
              clear hn1 hn2 cc cc2 hvr hzr
              go_wp2
              go_roundw
              case rel => exact ⟨m + 1, by omega, by go_num, by show _ = Value.int .i64 (colS g k m + cellOf g m k); go_num, by show _ = Value.int .i64 (colS o k m + cellOf o m k); go_num, hdr⟩
              case measure => simp [intOf]; omega
            · have hme : m = g.length := by omega
              subst hme
              have hc1 := hg.col hlk g.length (by omega)
              have N1 : Calls Try.prog 75 #[.int .i64 (colS o k g.length), .int .i64 (colS g k g.length), .int .i64 u] wr fun e w' => e = .returned (.bool (nearB (colS o k g.length) (colS g k g.length) u)) ∧ wr = w' := near_spec _ _ _ _ (by omega) hu
              cases hnear : nearB (colS o k g.length) (colS g k g.length) u
              · rw [hnear] at N1
                have HF := Lib.hid (fitsB_no2 (o := o) hlk hnear)
                have HN := Lib.hid N1
                clear N1 hnear
                go_wp2_with (go_at_call 75; refine Calls.mono (by with_reducible exact HN.out) ?_; rintro e w' ⟨rfl, rfl⟩)
                go_ret
                exact ⟨ret_bool HF.out.symm, hdr⟩
              · rw [hnear] at N1
                have HC := Lib.hid hnear
                have HN := Lib.hid N1
                clear N1 hnear
                go_wp2_with (go_at_call 75; refine Calls.mono (by with_reducible exact HN.out) ?_; rintro e w' ⟨rfl, rfl⟩)
                go_roundw
                case rel =>
                  refine ⟨k + 1, by omega, by go_num, fun j hj => ?_, hdr⟩
                  by_cases hjk : j = k
                  · subst hjk; exact HC.out
                  · exact HOC.out j (by omega)
                case measure => simp [intOf]; omega
        · have ha1 := hg.all g.length (by omega)
          have HF := Lib.hid (fitsB_yes (g := g) (o := o) (u := u) HOK.out (fun j hj => HOC.out j (by omega)))
          have HN : Hid (Calls Try.prog 75 #[.int .i64 (allS o g.length), .int .i64 (allS g g.length), .int .i64 u] wr fun e w' => e = .returned (.bool (nearB (allS o g.length) (allS g g.length) u)) ∧ wr = w') := near_spec _ _ _ _ (by omega) hu
          go_wp2_with (go_at_call 75; refine Calls.mono (by with_reducible exact HN.out) ?_; rintro e w' ⟨rfl, rfl⟩)
          go_ret
          exact ⟨ret_bool HF.out.symm, hdr⟩

end Go.Proofs.Ytlibfmbbchhjeaa
