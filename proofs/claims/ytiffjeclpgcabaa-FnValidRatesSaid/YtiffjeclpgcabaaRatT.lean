/- Rates of exchange: valid ones, in the model and in the program. -/
import Derived.Test.YtiffjeclpgcabaaRatN
import Derived.Test.YtiffjeclpgcabaaRatP
import Derived.Test.YtiffjeclpgcabaaRaT
import Derived.Test.YtiffjeclpgcabaaCarI
namespace Go.Proofs.Ytiffjeclpgcabaa
open Go.RowKit

/-- What one of the money a is in the money b. -/
def cellX (g : List (List (Int × Int))) (a b : Nat) : Int × Int := (rUp (rowR g a) b, rDn (rowR g a) b)
/-- The rate in row a, column b may stand there. -/
def okX (g : List (List (Int × Int))) (a b : Nat) : Bool := vRat (cellX g a b).1 (cellX g a b).2 && (decide (a ≠ b) || decide (cellX g a b = (1, 1)))
/-- Row a may stand where it stands. -/
def rowX (g : List (List (Int × Int))) (a : Nat) : Bool := decide ((rowR g a).length = g.length) && (List.range g.length).all (okX g a)
/-- Are the rows rates of exchange? -/
def vRates (g : List (List (Int × Int))) : Bool := inR g.length 1 4 && (List.range g.length).all (rowX g)

theorem rowX_no {g : List (List (Int × Int))} {a b : Nat} (hb : b < g.length) (h : okX g a b = false) : rowX g a = false := by
  unfold rowX
  have : (List.range g.length).all (okX g a) = false := by
    rw [List.all_eq_false]
    exact ⟨b, List.mem_range.2 hb, by simp [h]⟩
  rw [this, Bool.and_false]
theorem rowX_len_no {g : List (List (Int × Int))} {a : Nat} (h : (rowR g a).length ≠ g.length) : rowX g a = false := by
  unfold rowX
  rw [decide_eq_false h]; rfl
theorem rowX_yes {g : List (List (Int × Int))} {a : Nat} (hl : (rowR g a).length = g.length) (h : ∀ b, b < g.length → okX g a b = true) : rowX g a = true := by
  unfold rowX
  rw [decide_eq_true hl, Bool.true_and, List.all_eq_true]
  exact fun b hb => h b (List.mem_range.1 hb)
theorem vRates_no {g : List (List (Int × Int))} {a : Nat} (ha : a < g.length) (h : rowX g a = false) : vRates g = false := by
  unfold vRates
  have : (List.range g.length).all (rowX g) = false := by
    rw [List.all_eq_false]
    exact ⟨a, List.mem_range.2 ha, by simp [h]⟩
  rw [this, Bool.and_false]
theorem vRates_all {g : List (List (Int × Int))} (h : ∀ a, a < g.length → rowX g a = true) : vRates g = inR g.length 1 4 := by
  unfold vRates
  have : (List.range g.length).all (rowX g) = true := by
    rw [List.all_eq_true]
    exact fun a ha => h a (List.mem_range.1 ha)
  rw [this, Bool.and_true]

/-- Rates of exchange. -/
structure Rates (g : List (List (Int × Int))) : Prop where
  len1 : 1 ≤ g.length
  len4 : g.length ≤ 4
  row : ∀ a, a < g.length → (rowR g a).length = g.length
  one : ∀ a, a < g.length → cellX g a a = (1, 1)
  bd : ∀ a b, a < g.length → b < g.length → rB (cellX g a b) 20

theorem vRates_iff {g : List (List (Int × Int))} : vRates g = true ↔ Rates g := by
  constructor
  · intro h
    unfold vRates at h
    rw [Bool.and_eq_true, List.all_eq_true] at h
    obtain ⟨h1, h2⟩ := h
    have h1 := inR_true h1
    have hr : ∀ a, a < g.length → (rowR g a).length = g.length ∧ ∀ b, b < g.length → okX g a b = true := fun a ha => by
      have := h2 a (List.mem_range.2 ha)
      unfold rowX at this
      rw [Bool.and_eq_true, List.all_eq_true] at this
      exact ⟨of_decide_eq_true this.1, fun b hb => this.2 b (List.mem_range.2 hb)⟩
    refine ⟨by omega, by omega, fun a ha => (hr a ha).1, fun a ha => ?_, fun a b ha hb => ?_⟩
    · have := (hr a ha).2 a ha
      unfold okX at this
      rw [Bool.and_eq_true] at this
      simpa using this.2
    · have := (hr a ha).2 b hb
      unfold okX at this
      rw [Bool.and_eq_true] at this
      exact vRat_iff.1 this.1
  · intro h
    rw [vRates_all (fun a ha => rowX_yes (h.row a ha) (fun b hb => ?_))]
    · have := h.len1
      have := h.len4
      unfold inR
      rw [decide_eq_true_iff]
      omega
    · unfold okX
      rw [Bool.and_eq_true]
      refine ⟨vRat_iff.2 (h.bd a b ha hb), ?_⟩
      by_cases e : a = b
      · subst e; simp [h.one a ha]
      · simp [e]

theorem IsRs.at {w : World} {a : Option Addr} {n cap : Nat} {st : List (Int × Int)} (h : IsRs w (.slice a n cap) st) (j : Nat) (hj : j < st.length) : ∃ b off, a = some ⟨b, off, none⟩ ∧ w.cell? ⟨b, off + j * 2, none⟩ = some (.int .i64 (rUp st j)) ∧ w.cell? ⟨b, off + j * 2 + 1, none⟩ = some (.int .i64 (rDn st j)) := by
  obtain ⟨a', cap', e, hc⟩ := h
  simp only [Value.slice.injEq] at e
  obtain ⟨rfl, _, _⟩ := e
  exact hc j hj

set_option maxRecDepth 100000 in
set_option maxHeartbeats 3200000 in
theorem validRates_spec (v : Value) (g : List (List (Int × Int))) (w : World) (hv : IsGridR w v g) (hl : g.length ≤ 9223372036854775807) (hr : ∀ i, i < g.length → (rowR g i).length ≤ 9223372036854775807) :
    Calls Try.prog 60 #[v] w fun e w' => e = .returned (.bool (vRates g)) ∧ Below w.heap.size w w' := by
  obtain ⟨a, cap, rfl, _⟩ := id hv
  have HV := Lib.hid hv
  have HVR := Lib.hid validRatio_at
  clear hv
  go_enter Try.func60, Try.ntmps60
  go_wp2
  go_loopw [3] (fun s wr => ∃ i : Nat, i ≤ g.length ∧ s = .int .i64 i ∧ (∀ j, j < i → rowX g j = true) ∧ Below w.heap.size w wr) (fun s _ => g.length - (intOf s).toNat)
  case atStart => exact ⟨0, Nat.zero_le _, rfl, fun j hj => absurd hj (Nat.not_lt_zero _), Below.refl _ _⟩
  case round =>
    obtain ⟨i, hi, rfl, hok, hbl⟩ := hrel
    rename World => wr
    have HOK := Lib.hid hok
    clear hok
    by_cases hlt : i < g.length
    · obtain ⟨b, off, ar, cr, rfl, ci0, hrow⟩ := HV.out.row i hlt
      have hbb : b < w.heap.size := World.block_lt_of_cell? w _ ci0
      have ci := (hbl.cell (p := ⟨b, off + i, none⟩) hbb).trans ci0
      have i1 : (i : Int) < (g.length : Int) := by omega
      have hri := hr i hlt
      by_cases hsame : (rowR g i).length = g.length
      · have hne : (((rowR g i).length : Int) != (g.length : Int)) = false := by simp; omega
        have HSM := Lib.hid hsame
        have HRW := Lib.hid hrow
        have HCI := Lib.hid ci0
        clear hrow hsame ci0
        go_wp2
        go_loopw [4] (fun s wx => ∃ k : Nat, k ≤ g.length ∧ s = .int .i64 k ∧ (∀ j, j < k → okX g i j = true) ∧ Below w.heap.size w wx) (fun s _ => g.length - (intOf s).toNat)
        case atStart => exact ⟨0, Nat.zero_le _, rfl, fun j hj => absurd hj (Nat.not_lt_zero _), hbl⟩
        case round =>
          clear hbl ci hne
          obtain ⟨k, hk, rfl, hok2, hbx⟩ := hrel
          rename World => wx
          have HO2 := Lib.hid hok2
          clear hok2
          by_cases hlk : k < g.length
          · have ci := (hbx.cell (p := ⟨b, off + i, none⟩) hbb).trans HCI.out
            obtain ⟨br, fr, rfl, d0, d1⟩ := HRW.out.at k (by rw [HSM.out]; exact hlk)
            have hbr : br < w.heap.size := World.block_lt_of_cell? w _ d0
            have e0 := (hbx.cell (p := ⟨br, fr + k * 2, none⟩) hbr).trans d0
            have e1 := (hbx.cell (p := ⟨br, fr + k * 2 + 1, none⟩) hbr).trans d1
            have k1 : (k : Int) < (g.length : Int) := by omega
            have k2 : (k : Int) < ((rowR g i).length : Int) := by rw [HSM.out]; exact k1
            have HKX : Hid (okX g i k = (vRat (rUp (rowR g i) k) (rDn (rowR g i) k) && (decide (i ≠ k) || decide ((rUp (rowR g i) k, rDn (rowR g i) k) = (1, 1))))) := rfl
            have HNO : Hid (okX g i k = false → vRates g = false) := fun h => vRates_no hlt (rowX_no hlk h)
            clear d0 d1
            generalize rUp (rowR g i) k = u at *
            generalize rDn (rowR g i) k = d at *
            cases hvr : vRat u d
            · have HF := Lib.hid (HNO.out (by rw [HKX.out, hvr]; rfl))
              go_wp2_with (go_at_call 71; refine (HVR.out _ _ _ _ hvr).mono ?_; rintro e w' ⟨rfl, hd⟩)
              go_ret
              exact ⟨ret_bool HF.out.symm, hbx.trans (hd.mono hbx.size)⟩
            · go_wp2_with fail
              refine (HVR.out _ _ _ _ hvr).mono ?_
              rintro e w5 ⟨rfl, hd⟩
              have hb5 := hbx.trans (hd.mono hbx.size)
              have hs5 := hbx.size
              have ci5 := (hd.cell (p := ⟨b, off + i, none⟩) (by show b < wx.heap.size; omega)).trans ci
              have e50 := (hd.cell (p := ⟨br, fr + k * 2, none⟩) (by show br < wx.heap.size; omega)).trans e0
              have e51 := (hd.cell (p := ⟨br, fr + k * 2 + 1, none⟩) (by show br < wx.heap.size; omega)).trans e1
              clear e0 e1 ci hd hbx
              by_cases hik : i = k
              · subst hik
                by_cases hone : (u, d) = (1, 1)
                · have HKT : Hid (okX g i i = true) := by show _ = _; rw [HKX.out, hvr, decide_eq_true hone]; simp
                  have hu : u = 1 := congrArg Prod.fst hone
                  have hd : d = 1 := congrArg Prod.snd hone
                  subst hu
                  subst hd
                  clear hone
                  go_wp2
                  go_roundw
                  case rel =>
                    refine ⟨i + 1, by omega, by go_num, fun j hj => ?_, hb5⟩
                    by_cases e : j = i
                    · subst e; exact HKT.out
                    · exact HO2.out j (by omega)
                  case measure => simp [intOf]; omega
                · have HF := Lib.hid (HNO.out (by rw [HKX.out, hvr, decide_eq_false hone]; simp))
                  have hne : ¬ (u = 1 ∧ d = 1) := fun h => hone (by rw [h.1, h.2])
                  clear hone
                  go_wp2
                  all_goals (go_ret; exact ⟨ret_bool HF.out.symm, hb5⟩)
              · have HKT : Hid (okX g i k = true) := by show _ = _; rw [HKX.out, hvr, decide_eq_true hik]; rfl
                have hie : ((i : Int) == (k : Int)) = false := by simp; omega
                have hik2 : ¬ ((i : Int) = (k : Int)) := by omega
                clear hik
                go_wp2
                go_roundw
                case rel =>
                  refine ⟨k + 1, by omega, by go_num, fun j hj => ?_, hb5⟩
                  by_cases e : j = k
                  · subst e; exact HKT.out
                  · exact HO2.out j (by omega)
                case measure => simp [intOf]; omega
          · have HRX : Hid (rowX g i = true) := rowX_yes HSM.out (fun b hb => HO2.out b (by omega))
            go_wp2
            go_roundw
            case rel =>
              refine ⟨i + 1, by omega, by go_num, fun j hj => ?_, hbx⟩
              by_cases e : j = i
              · subst e; exact HRX.out
              · exact HOK.out j (by omega)
            case measure => simp [intOf]; omega
      · have hne : (((rowR g i).length : Int) != (g.length : Int)) = true := by simp; omega
        have HF : Hid (vRates g = false) := vRates_no hlt (rowX_len_no hsame)
        clear hsame hrow
        go_wp2
        go_ret
        exact ⟨ret_bool HF.out.symm, hbl⟩
    · have HF : Hid (vRates g = inR g.length 1 4) := vRates_all (fun a ha => HOK.out a (by omega))
      go_wp2_with (go_at_call 63; refine (inRange_spec _ _ _ _).mono ?_; rintro e w' ⟨rfl, rfl⟩)
      go_ret
      exact ⟨ret_bool HF.out.symm, hbl⟩

theorem ValidRates_spec (v : Value) (g : List (List (Int × Int))) (w : World) (hv : IsGridR w v g) (hl : g.length ≤ 9223372036854775807) (hr : ∀ i, i < g.length → (rowR g i).length ≤ 9223372036854775807) :
    Calls Try.prog 21 #[v] w fun e w' => e = .returned (.bool (vRates g)) ∧ Below w.heap.size w w' := by
  have H := Lib.hid (validRates_spec v g w hv hl hr)
  go_enter Try.func21, Try.ntmps21
  go_wp2_with (go_at_call 60; refine H.out.mono ?_; rintro e w' ⟨rfl, hd⟩)
  go_ret
  exact ⟨rfl, hd⟩

end Go.Proofs.Ytiffjeclpgcabaa
