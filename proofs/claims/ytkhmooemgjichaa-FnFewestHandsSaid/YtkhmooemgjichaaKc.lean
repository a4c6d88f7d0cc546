/- FewestHands beside FewestCoins and the common divisor: the facts that the law asks; contracts beside leavers. -/
import Derived.Test.YtkhmooemgjichaaKa
import Derived.Test.YtkhmooemgjichaaHandI
import Derived.Test.YtkhmooemgjichaaCoinC
import Derived.Test.YtkhmooemgjichaaCoinR
namespace Go.Proofs.Ytkhmooemgjichaa
open Go Go.Conc Go.RowKit

theorem hand_facts {cs : List Int} {a : Int} (h : vCoins cs = true) (ha : 0 ≤ a ∧ a ≤ 120) :
    (cHand cs a = true ↔ gcdL cs ∣ a) ∧ (cFew cs a = true → handV cs a ≤ fewN cs a) ∧ (cHand cs a = true → (handV cs a = 0 ↔ a = 0)) := by
  have hp := vc_pos h
  have hlen := vc_len h
  have hne : cs ≠ [] := fun e => by rw [e] at hlen; simp at hlen
  have hin : inR a 0 120 = true := by unfold inR; simp; omega
  have hz := fw_zero hp
  have hc : cHand cs a = decide (0 ≤ bestH cs a 901) := by unfold cHand; rw [h, hin]; rfl
  have hb := bestH_facts hp a 901
  have hf : cFew cs a = true → 0 ≤ fwV cs a := fun e => by
    unfold cFew at e
    rw [h, hin] at e
    simpa using e
  refine ⟨?_, ?_, ?_⟩
  · rw [hc, decide_eq_true_iff]
    constructor
    · intro h0
      rcases hb with ⟨h1, _⟩ | ⟨_, ⟨j, _, h2, h3, _⟩, _⟩
      · omega
      · have d1 := pays_dvd hp (fw_pays hp h2)
        have d2 := pays_dvd hp (fw_pays hp h3)
        have := Int.dvd_sub d1 d2
        rwa [Int.add_sub_cancel] at this
    · intro hd
      rcases hb with ⟨_, h1⟩ | ⟨h1, _⟩
      · exfalso
        have hg1 := gcdL_pos hp hne
        have hg2 : gcdL cs ≤ 30 := by
          have hd := gcdL_dvd hp (cs.getD 0 0) (getD_mem (by omega))
          have := vc_at h (i := 0) (by omega)
          exact Int.le_trans (Int.le_of_dvd (by omega) hd) this.2
        have h2 := Int.emod_nonneg (900 : Int) (show gcdL cs ≠ 0 by omega)
        have h3 := Int.emod_lt_of_pos (900 : Int) (show 0 < gcdL cs by omega)
        obtain ⟨j, hj⟩ : ∃ j : Nat, (j : Int) = 900 - 900 % gcdL cs := ⟨(900 - 900 % gcdL cs).toNat, by omega⟩
        have hdj : gcdL cs ∣ (j : Int) := by rw [hj]; exact Int.dvd_self_sub_emod
        have hM : ∀ c ∈ cs, c ≤ 30 := vc_30 h
        exact h1 j (by omega) ⟨cover_30 hp hne hM (Int.dvd_add hd hdj) (by omega), cover_30 hp hne hM hdj (by omega)⟩
      · exact h1
  · intro e
    have h0 := hf e
    have hN : fewN cs a = fwV cs a := if_pos e
    rw [hN]
    unfold handV
    split
    · rcases hb with ⟨h1, _⟩ | ⟨_, _, h3⟩
      · omega
      · have := h3 0 (by omega) (by simpa using h0) (by simp [hz])
        simpa [hz] using this
    · exact h0
  · intro e
    have hv : handV cs a = bestH cs a 901 := if_pos e
    rw [hc, decide_eq_true_iff] at e
    rw [hv]
    rcases hb with ⟨h1, _⟩ | ⟨_, ⟨j, _, h2, h3, h4⟩, h5⟩
    · omega
    · constructor
      · intro h6
        have := fw_eq_zero hp (x := a + j) (by omega)
        omega
      · rintro rfl
        have := h5 0 (by omega) (by simp [hz]) (by simp [hz])
        simp [hz] at this
        omega

theorem drawHands_B (a : Option Addr) (n cap : Nat) (w : World) (h : IsBytes w a n) (hc : n ≤ cap) :
    CallsB Try.prog 16 #[.slice a n cap] w fun x w' => ∃ v xs z, x = .tuple #[v, .int .i64 z] ∧ Own w' w.heap.size v xs ∧ xs.length ≤ 6 ∧ (-1 ≤ z ∧ z ≤ 121) ∧ BelX w.heap.size w w' :=
  CallsB.ofCalls plain_prog (fun v u τ d h => by obtain ⟨v', xs, z, h1, h2, h3, h4, h5⟩ := h; exact ⟨v', xs, z, h1, own_on h2 τ d, h3, h4, h5.on τ d⟩) fun τ => (DrawFewestHands_any a n cap (On w τ 0) h hc).mono fun e w' h => by
    obtain ⟨v', xs, z, rfl, h2, h3, h4, h5⟩ := h
    exact ⟨_, rfl, v', xs, z, rfl, h2, h3, h4, BelX.ofOn h5⟩
theorem hands_B (v : Value) (cs : List Int) (a : Int) (w : World) (hv : IsInts w v cs) (hl : cs.length ≤ 9223372036854775807) :
    CallsB Try.prog 17 #[v, .int .i64 a] w fun x w' => x = .tuple #[.int .i64 (handV cs a), .bool (cHand cs a)] ∧ BelX w.heap.size w w' :=
  CallsB.ofCalls plain_prog (fun v u τ d h => ⟨h.1, h.2.on τ d⟩) fun τ => (FewestHands_impl v cs a (On w τ 0) hv hl).mono fun e w' h => by
    obtain ⟨rfl, h2⟩ := h
    exact ⟨_, rfl, rfl, BelX.ofOn h2⟩
theorem handsSpec_B (v : Value) (cs : List Int) (a : Int) (w : World) (hv : IsInts w v cs) (hl : cs.length ≤ 9223372036854775807) :
    CallsB Try.prog 18 #[v, .int .i64 a] w fun x w' => x = .tuple #[.int .i64 (handV cs a), .bool (cHand cs a)] ∧ BelX w.heap.size w w' :=
  CallsB.ofCalls plain_prog (fun v u τ d h => ⟨h.1, h.2.on τ d⟩) fun τ => (FewestHands_spec v cs a (On w τ 0) hv hl).mono fun e w' h => by
    obtain ⟨rfl, h2⟩ := h
    exact ⟨_, rfl, rfl, BelX.ofOn h2⟩

set_option maxHeartbeats 1600000 in
theorem divisor_c (a b : Nat) (w : World) (ha : a ≤ 1000000) (hb : b ≤ 1000000) :
    Calls Try.prog 19 #[.int .i64 (a : Int), .int .i64 (b : Int)] w fun e w' => e = .returned (.int .i64 ((Nat.gcd a b : Nat) : Int)) ∧ w = w' := by
  go_enter Try.func19, Try.ntmps19
  go_wp2
  go_loopw [0, 1, 5] (fun av bv _ wr => ∃ x y : Nat, av = .int .i64 x ∧ bv = .int .i64 y ∧ x ≤ 1000000 ∧ y ≤ 1000000 ∧ Nat.gcd x y = Nat.gcd a b ∧ wr = w) (fun _ bv _ _ => (intOf bv).toNat)
  case atStart => exact ⟨a, b, rfl, rfl, ha, hb, rfl, rfl⟩
  case round =>
    obtain ⟨x, y, rfl, rfl, hx, hy, hg, rfl⟩ := hrel
    have HG := Lib.hid hg
    clear hg
    by_cases h : 0 < y
    · have y1 : (0 : Int) < (y : Int) := by omega
      have y2 : (y : Int) ≠ 0 := by omega
      have hm0 := Int.emod_nonneg (x : Int) y2
      have hm1 := Int.emod_lt_of_pos (x : Int) y1
      have l3 : x % y < y := Nat.mod_lt _ h
      have HN : Hid (Nat.gcd y (x % y) = Nat.gcd a b) := by
        show _ = _
        rw [← HG.out, Nat.gcd_comm y (x % y), ← Nat.gcd_rec y x, Nat.gcd_comm]
      go_wp2
      go_roundw
      case rel => exact ⟨y, x % y, rfl, by go_num, hy, by omega, HN.out, trivial⟩
      case measure => simp [intOf]; omega
    · have y0 : y = 0 := by omega
      subst y0
      have HN : Hid (((Nat.gcd a b : Nat) : Int) = (x : Int)) := by show _ = _; rw [← HG.out, Nat.gcd_zero_right]
      have y1 : ¬ (0 : Int) < ((0 : Nat) : Int) := by omega
      go_wp2
      go_ret
      exact ⟨ret_int HN.out.symm, rfl⟩
/-- One more coin. -/
theorem divisor_B (cs : List Int) (i : Nat) (w : World) (h : vCoins cs = true) (hi : i < cs.length) :
    CallsB Try.prog 19 #[.int .i64 (cs.getD i 0), .int .i64 (gcdL (cs.take i))] w fun x w' => x = .int .i64 (gcdL (cs.take (i + 1))) ∧ BelX w.heap.size w w' := by
  have h1 := vc_at h hi
  have h2 := gcdL_nonneg (cs.take i)
  have h3 : gcdL (cs.take i) ≤ 30 := by
    rcases Nat.eq_zero_or_pos i with rfl | h0
    · simp [gcdL]
    · have hm : cs.getD 0 0 ∈ cs.take i := by
        have : (cs.take i).getD 0 0 = cs.getD 0 0 := by rw [List.getD_eq_getElem?_getD, List.getD_eq_getElem?_getD, List.getElem?_take, if_pos h0]
        rw [← this]
        exact getD_mem (by rw [List.length_take]; omega)
      have h4 := vc_at h (i := 0) (by omega)
      exact Int.le_trans (Int.le_of_dvd (by omega) (gcdL_dvd ((vc_pos h).take i) _ hm)) h4.2
  obtain ⟨p, hp⟩ : ∃ p : Nat, cs.getD i 0 = p := ⟨(cs.getD i 0).toNat, by omega⟩
  obtain ⟨q, hq⟩ : ∃ q : Nat, gcdL (cs.take i) = q := ⟨(gcdL (cs.take i)).toNat, by omega⟩
  have e : gcdL (cs.take (i + 1)) = ((Nat.gcd p q : Nat) : Int) := by
    rw [take_snoc cs hi, gcdL_snoc, Nat.gcd_comm, hp, hq]
    rfl
  rw [e, hp, hq]
  exact CallsB.ofCalls plain_prog (fun v u τ d h => ⟨h.1, h.2.on τ d⟩) fun τ => (divisor_c p q (On w τ 0) (by omega) (by omega)).mono fun e w' h => by
    obtain ⟨rfl, h2⟩ := h
    exact ⟨_, rfl, rfl, by subst h2; exact (BelX.refl _ _).on _ _⟩
end Go.Proofs.Ytkhmooemgjichaa
