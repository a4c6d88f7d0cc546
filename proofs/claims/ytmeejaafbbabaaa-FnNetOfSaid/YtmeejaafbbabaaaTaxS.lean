/- Taxes, what is left, rates, pairs: the model's functions. -/
import Derived.Test.YtmeejaafbbabaaaVStepsS
import Derived.RegionTactic
import Derived.BigRegion
namespace Go.Proofs.Ytmeejaafbbabaaa
open Go.RowKit

set_option maxHeartbeats 400000 in
theorem ValidSteps_spec (v : Value) (st : List (Int × Int)) (w : World) (hv : IsSteps w v st) (hl : st.length ≤ 9223372036854775807) :
    Calls Try.prog 21 #[v] w fun e w' => e = .returned (.bool (vSteps st)) ∧ Drawn w w' := by
  go_enter Try.func21, Try.ntmps21
  go_wp2_with fail
  refine (validSteps_spec _ _ _ hv hl).mono ?_
  rintro e w' ⟨rfl, hd⟩
  go_wp2
  go_ret
  exact ⟨rfl, hd⟩

/-- What the model taxes by step i. -/
def seg (st : List (Int × Int)) (x : Int) (i : Nat) : Int := max ((if i + 1 < st.length then min x (frm st (i + 1)) else x) - frm st i) 0

theorem Steps.seg_bounds {st : List (Int × Int)} (h : Steps st) {x : Int} (hx : 0 ≤ x ∧ x ≤ 2000) (i : Nat) (hi : i < st.length) : 0 ≤ seg st x i ∧ seg st x i ≤ 2000 := by
  have := h.fr i hi
  unfold seg
  split
  · have := h.fr (i + 1) (by omega); omega
  · omega

theorem Steps.part_bounds {st : List (Int × Int)} (h : Steps st) {x : Int} (hx : 0 ≤ x ∧ x ≤ 2000) (i : Nat) (hi : i ≤ st.length) : 0 ≤ part st x i ∧ part st x i ≤ 200000 * i := by
  induction i with
  | zero => simp [part]
  | succ i ih =>
    have h1 := ih (by omega)
    have h2 := h.seg_bounds hx i (by omega)
    have h3 := mul_bounds h2.1 (h.rt i (by omega))
    have e : part st x (i + 1) = part st x i + seg st x i * rat st i := rfl
    rw [e]
    omega

set_option maxHeartbeats 1600000 in
theorem tax_spec (v : Value) (st : List (Int × Int)) (x : Int) (w : World) (hv : IsSteps w v st) (hs : Steps st) (hx : 0 ≤ x ∧ x ≤ 2000) :
    Calls Try.prog 58 #[v, .int .i64 x] w fun e w' => e = .returned (.int .i64 (taxT st x)) ∧ Drawn w w' := by
  obtain ⟨a, cap, rfl, hc⟩ := hv
  have hl5 := hs.len5
  go_enter Try.func58, Try.ntmps58
  go_wp2
  go_loopw [5, 6] (fun t s wr => ∃ k : Nat, k ≤ st.length ∧ s = .int .i64 k ∧ t = .int .i64 (part st x k) ∧ Drawn w wr) (fun _ s _ => st.length - (intOf s).toNat)
  case atStart => exact ⟨0, Nat.zero_le _, rfl, rfl, Drawn.refl _⟩
  case round =>
    obtain ⟨k, hk, rfl, rfl, hdr⟩ := hrel
    by_cases hlt : k < st.length
    · obtain ⟨b, off, rfl, c0, c1⟩ := hc k hlt
      have d0 : wr.cell? ⟨b, off + k * 2, none⟩ = some (.int .i64 (frm st k)) := (hdr.cell _).trans c0
      have d1 : wr.cell? ⟨b, off + k * 2 + 1, none⟩ = some (.int .i64 (rat st k)) := (hdr.cell _).trans c1
      have k1 : (k : Int) < (st.length : Int) := by omega
      have hf := hs.fr k hlt
      have hr := hs.rt k hlt
      have hp := hs.part_bounds hx k hk
      have hp1 := hs.part_bounds hx (k + 1) (by omega)
      have hsg := hs.seg_bounds hx k hlt
      have hmb := mul_bounds hsg.1 hr
      by_cases hlt2 : k + 1 < st.length
      · have k2 : (k : Int) + 1 < (st.length : Int) := by omega
        obtain ⟨b', off', e, c2, _⟩ := hc (k + 1) hlt2
        simp only [Option.some.injEq, Addr.mk.injEq, and_true] at e
        obtain ⟨rfl, rfl⟩ := e
        have d2 : wr.cell? ⟨b, off + (k + 1) * 2, none⟩ = some (.int .i64 (frm st (k + 1))) := (hdr.cell _).trans c2
        clear hc
        have hup := hs.up k hlt2
        have HP : Hid (part st x (k + 1) = part st x k + seg st x k * rat st k) := rfl
        rw [HP.out] at hp1
        have HS : Hid (seg st x k = max (min x (frm st (k + 1)) - frm st k) 0) := by
          show seg st x k = _
          unfold seg
          rw [if_pos hlt2]
        have hf2 := hs.fr (k + 1) hlt2
        by_cases hx1 : x ≤ frm st (k + 1)
        · by_cases hx0 : frm st k ≤ x
          · have e : seg st x k = x - frm st k := by rw [HS.out]; omega
            rw [e] at hmb hp1 HP
            clear e
            go_wp2
            go_quiet (fail)
            go_wp2
            go_roundw
            case rel => exact ⟨k + 1, by omega, by go_num, by rw [HP.out] <;> simp, hdr.more _⟩
            case measure => simp [intOf]; omega
          · have e : seg st x k = 0 := by rw [HS.out]; omega
            rw [e] at hmb hp1 HP
            clear e
            go_wp2
            go_quiet (fail)
            go_wp2
            go_roundw
            case rel => exact ⟨k + 1, by omega, by go_num, by rw [HP.out] <;> simp, hdr.more _⟩
            case measure => simp [intOf]; omega
        · have e : seg st x k = frm st (k + 1) - frm st k := by rw [HS.out]; omega
          rw [e] at hmb hp1 HP
          clear e
          go_wp2
          go_quiet (fail)
          go_wp2
          go_roundw
          case rel => exact ⟨k + 1, by omega, by go_num, by rw [HP.out] <;> simp, hdr.more _⟩
          case measure => simp [intOf]; omega
      · have hk2 : ¬ ((k : Int) + 1 < (st.length : Int)) := by omega
        have HP : Hid (part st x (k + 1) = part st x k + seg st x k * rat st k) := rfl
        rw [HP.out] at hp1
        have HS : Hid (seg st x k = max (x - frm st k) 0) := by
          show seg st x k = _
          unfold seg
          rw [if_neg hlt2]
        clear hc hlt2
        by_cases hx0 : frm st k ≤ x
        · have e : seg st x k = x - frm st k := by rw [HS.out]; omega
          rw [e] at hmb hp1 HP
          clear e
          go_wp2
          go_quiet (fail)
          go_wp2
          go_roundw
          case rel => exact ⟨k + 1, by omega, by go_num, by rw [HP.out] <;> simp, hdr.more _⟩
          case measure => simp [intOf]; omega
        · have e : seg st x k = 0 := by rw [HS.out]; omega
          rw [e] at hmb hp1 HP
          clear e
          go_wp2
          go_quiet (fail)
          go_wp2
          go_roundw
          case rel => exact ⟨k + 1, by omega, by go_num, by rw [HP.out] <;> simp, hdr.more _⟩
          case measure => simp [intOf]; omega
    · have HP := Lib.hid (hs.part_all hx.1)
      have hkl : k = st.length := by omega
      have HK := Lib.hid hkl
      clear hkl hc
      go_wp2
      go_ret
      exact ⟨ret_int (by rw [HK.out, HP.out]), hdr⟩

end Go.Proofs.Ytmeejaafbbabaaa
