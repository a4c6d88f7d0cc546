/- The least income of which so much is left, in the model. -/
import Derived.Test.YtmeejaafbbabaaaGross
import Derived.Test.YtmeejaafbbabaaaAnsS
namespace Go.Proofs.Ytmeejaafbbabaaa
open Go.RowKit

theorem grossA_no {st : List (Int × Int)} {amt : Int} (h : canT st amt = false) : grossA st amt = (0, false) := by unfold grossA; rw [h]; rfl
theorem grossA_none {st : List (Int × Int)} {amt : Int} (h : ∀ x : Int, 0 ≤ x → x < 2001 → netT st x < amt) : grossA st amt = (0, false) := by
  unfold grossA
  rw [leastI_none h]
  split <;> rfl
theorem grossA_some {st : List (Int × Int)} {amt : Int} {k : Nat} (hc : canT st amt = true) (hk : k < 2001) (h : ∀ x : Int, 0 ≤ x → x < k → netT st x < amt) (hp : amt ≤ netT st k) : grossA st amt = ((k : Int), true) := by
  unfold grossA
  rw [hc, leastI_some hk h hp]
  rfl

set_option maxHeartbeats 1600000 in
theorem GrossFor_spec (v : Value) (st : List (Int × Int)) (x : Int) (w : World) (hv : IsSteps w v st) (hl : st.length ≤ 9223372036854775807) :
    Calls Try.prog 31 #[v, .int .i64 x] w fun e w' => e = .returned (.tuple #[.int .i64 (grossA st x).1, .bool (grossA st x).2]) ∧ Drawn w w' := by
  cases h1 : vSteps st
  · have E := Lib.hid (grossA_no (canT_no1 (x := x) h1))
    go_enter Try.func31, Try.ntmps31
    go_wp2_with fail
    refine (validSteps_spec _ _ _ hv hl).mono ?_
    rintro e w' ⟨rfl, hb⟩
    rw [h1]
    go_wp2
    go_ret2
    exact ⟨by rw [E.out]; rfl, hb⟩
  · cases h2 : inR x 0 2000
    · have E := Lib.hid (grossA_no (canT_no2 (st := st) h2))
      go_enter Try.func31, Try.ntmps31
      go_wp2_with fail
      refine (validSteps_spec _ _ _ hv hl).mono ?_
      rintro e w' ⟨rfl, hb⟩
      rw [h1]
      go_wp2_with (go_at_call 57; refine (inRange_spec _ _ _ _).mono ?_; rintro e w' ⟨rfl, rfl⟩)
      go_ret2
      exact ⟨by rw [E.out]; rfl, hb⟩
    · have hcan := canT_yes h1 h2
      have HC := Lib.hid hcan
      obtain ⟨hs, hx⟩ := canT_true hcan
      clear hcan
      go_enter Try.func31, Try.ntmps31
      go_wp2_with fail
      refine (validSteps_spec _ _ _ hv hl).mono ?_
      rintro e w' ⟨rfl, hb⟩
      rw [h1]
      go_wp2_with (go_at_call 57; refine (inRange_spec _ _ _ _).mono ?_; rintro e w' ⟨rfl, rfl⟩)
      have hv2 := hv.below hb.below
      go_loopw [6] (fun s wr => ∃ k : Nat, k ≤ 2001 ∧ s = .int .i64 k ∧ (∀ y : Int, 0 ≤ y → y < k → netT st y < x) ∧ Drawn w' wr) (fun s _ => 2001 - (intOf s).toNat)
      case atStart => exact ⟨0, Nat.zero_le _, rfl, fun y h0 h1 => by omega, Drawn.refl _⟩
      case round =>
        obtain ⟨k, hk, rfl, hlow, hdr⟩ := hrel
        have HL := Lib.hid hlow
        clear hlow
        by_cases hlt : (k : Int) ≤ 2000
        · have hvr := hv2.below hdr.below
          by_cases hle : x ≤ netT st k
          · have E := Lib.hid (grossA_some HC.out (by omega) HL.out hle)
            go_wp2_with fail
            refine (net_spec _ st k _ hvr hs (by omega)).mono ?_
            rintro e w3 ⟨rfl, hd3⟩
            go_wp2
            go_ret2
            exact ⟨by rw [E.out]; rfl, hb.trans (hdr.trans hd3)⟩
          · go_wp2_with fail
            refine (net_spec _ st k _ hvr hs (by omega)).mono ?_
            rintro e w3 ⟨rfl, hd3⟩
            go_wp2
            go_roundw
            case rel =>
              refine ⟨k + 1, by omega, by go_num, fun y h0 h1 => ?_, hdr.trans hd3⟩
              by_cases e : y = (k : Int)
              · rw [e]; omega
              · exact HL.out y h0 (by omega)
            case measure => simp [intOf]; omega
        · have E := Lib.hid (grossA_none (st := st) (amt := x) (fun y h0 h1 => HL.out y h0 (by omega)))
          go_wp2
          go_ret2
          exact ⟨by rw [E.out]; rfl, hb.trans hdr⟩

theorem grossA_facts {st : List (Int × Int)} {amt : Int} {g : Int} (h : grossA st amt = (g, true)) : canT st amt = true ∧ (0 ≤ g ∧ g ≤ 2000) ∧ netT st g = amt ∧ (0 < g → netT st (g - 1) < amt) := by
  unfold grossA at h
  split at h
  · next hc =>
    obtain ⟨hs, ha⟩ := canT_true hc
    split at h
    · next x hx =>
      simp only [Prod.mk.injEq, and_true] at h
      subst h
      have hmem := List.mem_of_find?_eq_some hx
      have hb := incs_mem.1 hmem
      have hp : amt ≤ netT st x := by simpa using List.find?_some hx
      have hlow : ∀ y : Int, 0 ≤ y → y < x → netT st y < amt := by
        intro y h0 h1
        by_cases hy : amt ≤ netT st y
        · exfalso
          unfold leastI at hx
          -- the least one of those that are enough
          have hex : ∃ k : Nat, k < 2001 ∧ amt ≤ netT st k ∧ (k : Int) < x ∧ ∀ z : Int, 0 ≤ z → z < k → netT st z < amt := by
            have hw : ∃ n : Nat, amt ≤ netT st (n : Int) := ⟨y.toNat, by rwa [Int.toNat_of_nonneg h0]⟩
            have hmin : ∀ m : Nat, amt ≤ netT st (m : Int) → ∃ k : Nat, k ≤ m ∧ amt ≤ netT st (k : Int) ∧ ∀ z : Int, 0 ≤ z → z < k → netT st z < amt := by
              intro m
              induction m using Nat.strongRecOn with
              | _ m ih =>
                intro hm
                by_cases hall : ∀ z : Int, 0 ≤ z → z < m → netT st z < amt
                · exact ⟨m, Nat.le_refl _, hm, hall⟩
                · have : ∃ z : Int, 0 ≤ z ∧ z < m ∧ amt ≤ netT st z := by
                    apply Classical.byContradiction
                    intro hno
                    apply hall
                    intro z z0 z1
                    apply Classical.byContradiction
                    intro hz
                    exact hno ⟨z, z0, z1, by omega⟩
                  obtain ⟨z, z0, z1, hz⟩ := this
                  obtain ⟨k, hk1, hk2, hk3⟩ := ih z.toNat (by omega) (by rwa [Int.toNat_of_nonneg z0])
                  exact ⟨k, by omega, hk2, hk3⟩
            obtain ⟨k, hk1, hk2, hk3⟩ := hmin y.toNat (by rwa [Int.toNat_of_nonneg h0])
            exact ⟨k, by omega, hk2, by omega, hk3⟩
          obtain ⟨k, hk, hk2, hkx, hk3⟩ := hex
          have := leastI_some hk hk3 hk2
          unfold leastI at this
          rw [this] at hx
          simp only [Option.some.injEq] at hx
          omega
        · omega
      refine ⟨hc, by omega, ?_, fun hg => hlow (x - 1) (by omega) (by omega)⟩
      by_cases h0 : x = 0
      · subst h0
        have := hs.net_bounds (Int.le_refl 0)
        omega
      · have h1 := hlow (x - 1) (by omega) (by omega)
        have h2 := hs.net_succ (show 0 ≤ x - 1 by omega)
        rw [show x - 1 + 1 = x by omega] at h2
        omega
    · simp at h
  · simp at h

end Go.Proofs.Ytmeejaafbbabaaa
