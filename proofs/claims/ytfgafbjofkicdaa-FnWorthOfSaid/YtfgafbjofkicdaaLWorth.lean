/- The law FnWorthOf, out of the program's contract. -/
import Derived.Test.YtfgafbjofkicdaaLoanW
import Derived.Test.YtfgafbjofkicdaaLDoubles
import Derived.Test.YtfgafbjofkicdaaLLeast
import Derived.Test.YtfgafbjofkicdaaTotL
import Derived.Test.YtfgafbjofkicdaaSumN
namespace Go.Proofs.Ytfgafbjofkicdaa
open Go.RowKit

theorem worthI_bound {xs : List Int} {p b : Int} (h : vStream xs p b = true) : -204800000000000 ≤ worthI xs p b ∧ worthI xs p b ≤ 204800000000000 := by
  obtain ⟨q1, q2, q3, q4⟩ := vStream_iff.1 h
  have := wSum_bound q1 (show 0 ≤ b ∧ b ≤ 20 by omega) (show 0 ≤ b + p ∧ b + p ≤ 20 by omega) q2.2 xs.length (Nat.le_refl _)
  unfold worthI
  omega

theorem pow_pos1 {q : Int} (h : 1 ≤ q) : ∀ n : Nat, 1 ≤ q ^ n
  | 0 => by simp
  | n + 1 => by
    have h1 := pow_pos1 h n
    have h2 := Int.mul_le_mul h1 h (by omega) (by omega)
    rw [Int.pow_succ]; omega

theorem vStream_tail {x : Int} {rest : List Int} {p b : Int} (h : vStream (x :: rest) p b = true) (h1 : 1 ≤ rest.length) : vStream rest p b = true := by
  obtain ⟨q1, q2, q3, q4⟩ := vStream_iff.1 h
  rw [List.length_cons] at q2
  exact vStream_iff.2 ⟨fun y hy => q1 y (List.mem_cons_of_mem _ hy), by omega, q3, q4⟩

theorem worth_free {xs : List Int} {b : Int} : worthI xs 0 b = tot xs * b ^ xs.length := by
  unfold worthI
  have h1 := sumT_tot xs xs.length (Nat.le_refl _)
  rw [List.take_of_length_le (Nat.le_refl _)] at h1
  rw [Int.add_zero, wSum_free xs b xs.length xs.length (Nat.le_refl _), h1]

/-- What is answered for the rest of a stream. -/
def restW (rest : List Int) (p b : Int) : Int := if 1 ≤ rest.length then worthU rest p b else 0
theorem restW_is {x : Int} {rest : List Int} {p b : Int} (h : vStream (x :: rest) p b = true) : restW rest p b = worthI rest p b ∧ (-204800000000000 ≤ worthI rest p b ∧ worthI rest p b ≤ 204800000000000) := by
  unfold restW
  by_cases h1 : 1 ≤ rest.length
  · have hv := vStream_tail h h1
    rw [if_pos h1, worthU, if_pos hv]
    exact ⟨rfl, worthI_bound hv⟩
  · have : rest = [] := by
      cases rest
      · rfl
      · simp at h1
    subst this
    rw [if_neg h1]
    have e : worthI [] p b = 0 := rfl
    rw [e]
    exact ⟨rfl, by decide, by decide⟩

theorem own_cap {w : World} {B g n cap : Nat} {xs : List Int} (h : Own w B (sl g n cap) xs) (h1 : 1 ≤ xs.length) : xs.length ≤ cap := by
  rcases id h.2 with ⟨_, hz⟩ | ⟨g', cap', cur, e, _, _, hc, _⟩
  · omega
  · simp only [Value.slice.injEq] at e
    omega

/-- The rest of a slice of the call's own. -/
theorem own_tail {w : World} {B g n cap : Nat} {x : Int} {rest : List Int} (h : Own w B (sl g n cap) (x :: rest)) (hn : n = rest.length + 1) (c : Nat) : IsInts w (.slice (some ⟨g, 1, none⟩) rest.length c) rest :=
  ⟨_, _, rfl, fun j hj => ⟨g, 1, rfl, by
    have := Own.cell h (by rw [List.length_cons, hn]) (j + 1) (by omega)
    rw [List.getD_cons_succ] at this
    rw [Nat.add_comm 1 j]; exact this⟩⟩

set_option maxRecDepth 100000 in
set_option maxHeartbeats 6400000 in
theorem FnWorthOf_of (himp : ∀ (v : Value) (xs : List Int) (p b : Int) (wx : World), IsInts wx v xs → xs.length ≤ 9 → Calls Try.prog 40 #[v, .int .i64 p, .int .i64 b] wx fun e w' => e = .returned (.tuple #[.int .i64 (worthU xs p b), .int .i64 (worthL xs p b)]) ∧ Below wx.heap.size wx w')
    (a : Option Addr) (n cap : Nat) (w : World) (h : IsBytes w a n) (hc : n ≤ cap) :
    Calls Try.prog 9 #[.slice a n cap] w fun e w' => e = .returned (.bool true) ∧ Below w.heap.size w w' := by
  by_cases hbig : (1048576 : Int) < (n : Int)
  · go_enter Try.func9, Try.ntmps9
    go_wp2
    go_ret
    exact ⟨rfl, Below.refl _ _⟩
  · have HI := Lib.hid himp
    clear himp
    go_enter Try.func9, Try.ntmps9
    go_wp2_with fail
    refine (DrawWorthOf_any a n cap _ h hc).mono ?_
    rintro e w1 ⟨v, xs, p, b, rfl, o1, hl, b1⟩
    clear h
    obtain ⟨av, cv, rfl, _⟩ := id o1.ints
    cases hv : vStream xs p b
    · have E1 : Hid (worthU xs p b = 0) := by show _ = _; rw [worthU, if_neg (by rw [hv]; simp)]
      have E2 : Hid (worthL xs p b = 0) := by show _ = _; rw [worthL, if_neg (by rw [hv]; simp)]
      clear hv
      go_wp2_with fail
      refine (HI.out _ xs p b _ o1.ints hl).mono ?_
      rintro e w2 ⟨rfl, hb2⟩
      rw [E1.out, E2.out]
      have b2 := b1.trans (hb2.mono b1.size)
      have o2 := o1.below hb2
      clear hb2 o1
      go_wp2_with fail
      refine (WorthOf_spec _ xs p b _ o2.ints (by omega)).mono ?_
      rintro e w3 ⟨rfl, q, rfl⟩
      rw [E1.out, E2.out]
      have b3 := below_drewN b2 q
      clear o2
      go_wp2
      go_ret
      exact ⟨rfl, b3⟩
    · obtain ⟨q1, q2, q3, q4⟩ := vStream_iff.1 hv
      obtain ⟨x, rest, rfl⟩ : ∃ x rest, xs = x :: rest := by
        cases xs
        · simp at q2
        · exact ⟨_, _, rfl⟩
      have E1 : Hid (worthU (x :: rest) p b = worthI (x :: rest) p b) := by show _ = _; rw [worthU, if_pos hv]
      have E2 : Hid (worthL (x :: rest) p b = (b + p) ^ (rest.length + 1)) := by show _ = _; rw [worthL, if_pos hv, List.length_cons]
      have hwb := worthI_bound hv
      have HC := Lib.hid (worth_cons x rest p b)
      have HF : Hid (p = 0 → worthI (x :: rest) p b = tot (x :: rest) * b ^ (rest.length + 1)) := fun h => by subst h; rw [worth_free, List.length_cons]
      obtain ⟨hr1, hr2⟩ := restW_is hv
      have HQ := Lib.hid (fun y hy => q1 y hy)
      have hx := q1 x (List.mem_cons_self ..)
      rw [List.length_cons] at q2 hl
      clear hv q1
      have L1 : (x :: rest).length = rest.length + 1 := List.length_cons
      rw [L1]
      obtain ⟨g, cp, hsh, hg1, hg2, _⟩ := own_shape o1 L1 (by omega)
      simp only [L1, Value.slice.injEq, true_and] at hsh
      obtain ⟨rfl, rfl⟩ := hsh
      have o1 : Own w1 w.heap.size (sl g (rest.length + 1) cv) (x :: rest) := o1
      have hcap := own_cap o1 (by rw [L1]; omega)
      rw [L1] at hcap
      have D1 := pow_pos1 (show 1 ≤ b + p by omega) (rest.length + 1)
      have T1 := Lib.hid (fun wx => times_lawI (b + p) ((rest.length : Int) + 1) (rest.length + 1) wx (by omega) (by omega) (by omega))
      have T2 := Lib.hid (fun wx => times_lawI (b + p) (rest.length : Int) rest.length wx (by omega) (by omega) rfl)
      have T3 := Lib.hid (fun wx => times_lawI b ((rest.length : Int) + 1) (rest.length + 1) wx (by omega) (by omega) (by omega))
      have z1 := pow_small (show 0 ≤ b + p ∧ b + p ≤ 20 by omega) (show rest.length + 1 ≤ 12 by omega)
      have z2 := pow_small (show 0 ≤ b + p ∧ b + p ≤ 20 by omega) (show rest.length ≤ 12 by omega)
      have z3 := pow_small (show 0 ≤ b ∧ b ≤ 20 by omega) (show rest.length + 1 ≤ 12 by omega)
      have z4 := mul_abs hx z2
      generalize (b + p) ^ (rest.length + 1) = D at *
      generalize b ^ (rest.length + 1) = BN at *
      generalize (b + p) ^ rest.length = DN at *
      have hDn : ¬ D = 0 := by omega
      have hD0 : (D == 0) = false := beq_eq_false_iff_ne.2 hDn
      generalize hW : worthI (x :: rest) p b = W at *
      generalize hR : worthI rest p b = RW at *
      go_wp2_with fail
      refine (HI.out _ (x :: rest) p b _ o1.ints hl).mono ?_
      rintro e w2 ⟨rfl, hb2⟩
      rw [E1.out, E2.out]
      have b2 := b1.trans (hb2.mono b1.size)
      have o2 := o1.below hb2
      clear hb2 o1
      go_wp2_with fail
      refine (WorthOf_spec _ (x :: rest) p b _ o2.ints (by omega)).mono ?_
      rintro e w3 ⟨rfl, q, rfl⟩
      rw [E1.out, E2.out]
      have b3 := below_drewN b2 q
      have o3 := o2.below (below_drewN (Below.refl _ _) q)
      generalize w2.drewN q = w3 at *
      clear o2 b2
      have HS := Lib.hid o3
      have c0 := o3.cell L1 0 (by omega)
      rw [List.getD_cons_zero] at c0
      by_cases h1 : 1 ≤ rest.length
      · have h1i : (1 : Int) < (rest.length : Int) + 1 := by omega
        have hcv : 1 < cv := by omega
        have hcv2 : ¬ cv = 1 := by omega
        have hrw : worthU rest p b = RW := by
          unfold restW at hr1
          rw [if_pos h1] at hr1
          exact hr1
        clear o3
        go_wp2_with fail
        refine (HI.out _ rest p b _ (own_tail HS.out rfl _) (by omega)).mono ?_
        rintro e w4 ⟨rfl, hb4⟩
        rw [hrw]
        have b4 := b3.trans (hb4.mono b3.size)
        have o4 := HS.out.below hb4
        have c1 := (hb4.cell (p := ⟨g, 0, none⟩) (World.block_lt_of_cell? _ _ c0)).trans c0
        clear hb4 b3 c0
        generalize worthL rest p b = LR at *
        have C1 : Hid (∀ q, Calls Try.prog 42 #[.int .i64 (b + p), .int .i64 ((rest.length : Int) + 1)] (w4.drewN q) fun e w' => e = .returned (.int .i64 D) ∧ ∃ m2, w' = w4.drewN m2) := fun q => (T1.out _).mono (by rintro e w' ⟨rfl, rfl⟩; exact ⟨rfl, q, rfl⟩)
        have C2 : Hid (∀ q, Calls Try.prog 42 #[.int .i64 (b + p), .int .i64 (rest.length : Int)] (w4.drewN q) fun e w' => e = .returned (.int .i64 DN) ∧ ∃ m2, w' = w4.drewN m2) := fun q => (T2.out _).mono (by rintro e w' ⟨rfl, rfl⟩; exact ⟨rfl, q, rfl⟩)
        have C3 : Hid (∀ q, Calls Try.prog 42 #[.int .i64 b, .int .i64 ((rest.length : Int) + 1)] (w4.drewN q) fun e w' => e = .returned (.int .i64 BN) ∧ ∃ m2, w' = w4.drewN m2) := fun q => (T3.out _).mono (by rintro e w' ⟨rfl, rfl⟩; exact ⟨rfl, q, rfl⟩)
        have C4 : Hid (∀ q, Calls Try.prog 35 #[sl g (rest.length + 1) cv] (w4.drewN q) fun e w' => e = .returned (.int .i64 (tot (x :: rest))) ∧ ∃ m2, w' = w4.drewN m2) := fun q => by
          have ho := o4.below (below_drewN (Below.refl _ _) q)
          exact (total_any _ _ _ ho.ints (by rw [L1]; omega) (sumFits_abs _ 1000 (fun z hz => HQ.out z hz) (by decide) (by rw [L1]; omega))).mono (by rintro e w' ⟨rfl, rfl⟩; exact ⟨rfl, q, rfl⟩)
        have X1 : IntKind.i64.wrap (x * DN) = x * DN := IntWalk.i64_in _ (by omega)
        have X2 : IntKind.i64.wrap (x * DN + RW) = x * DN + RW := IntWalk.i64_in _ (by omega)
        have X3 : IntKind.i64.wrap (b * (x * DN + RW)) = W := by rw [← HC.out]; exact IntWalk.i64_in _ (by omega)
        have B4 := Lib.hid b4
        generalize tot (x :: rest) = TX at *
        by_cases hp0 : 0 < p
        · have hpd : decide (0 < p) = true := decide_eq_true hp0
          clear o4
          go_wp2
          go_quiet ((first | (go_at_call 42; (first | (with_reducible exact C1.out _) | (with_reducible exact C2.out _) | (with_reducible exact C3.out _))) | (go_at_call 35; with_reducible exact C4.out _)))
          go_wp2
          go_ret
          exact ⟨rfl, below_drewN B4.out _⟩
        · have Y1 : IntKind.i64.wrap (TX * BN) = W := by rw [← HF.out (by omega)]; exact IntWalk.i64_in _ (by omega)
          have hpd : decide (0 < p) = false := decide_eq_false hp0
          clear o4
          go_wp2
          go_quiet ((first | (go_at_call 42; (first | (with_reducible exact C1.out _) | (with_reducible exact C2.out _) | (with_reducible exact C3.out _))) | (go_at_call 35; with_reducible exact C4.out _)))
          go_wp2
          go_ret
          exact ⟨rfl, below_drewN B4.out _⟩
      · have hr0 : rest.length = 0 := by omega
        have hrw : RW = 0 := by
          unfold restW at hr1
          rw [if_neg h1] at hr1
          exact hr1.symm
        subst hrw
        have C1 : Hid (∀ q, Calls Try.prog 42 #[.int .i64 (b + p), .int .i64 ((rest.length : Int) + 1)] (w3.drewN q) fun e w' => e = .returned (.int .i64 D) ∧ ∃ m2, w' = w3.drewN m2) := fun q => (T1.out _).mono (by rintro e w' ⟨rfl, rfl⟩; exact ⟨rfl, q, rfl⟩)
        have C2 : Hid (∀ q, Calls Try.prog 42 #[.int .i64 (b + p), .int .i64 (rest.length : Int)] (w3.drewN q) fun e w' => e = .returned (.int .i64 DN) ∧ ∃ m2, w' = w3.drewN m2) := fun q => (T2.out _).mono (by rintro e w' ⟨rfl, rfl⟩; exact ⟨rfl, q, rfl⟩)
        have C3 : Hid (∀ q, Calls Try.prog 42 #[.int .i64 b, .int .i64 ((rest.length : Int) + 1)] (w3.drewN q) fun e w' => e = .returned (.int .i64 BN) ∧ ∃ m2, w' = w3.drewN m2) := fun q => (T3.out _).mono (by rintro e w' ⟨rfl, rfl⟩; exact ⟨rfl, q, rfl⟩)
        have C4 : Hid (∀ q, Calls Try.prog 35 #[sl g (rest.length + 1) cv] (w3.drewN q) fun e w' => e = .returned (.int .i64 (tot (x :: rest))) ∧ ∃ m2, w' = w3.drewN m2) := fun q => by
          have ho := o3.below (below_drewN (Below.refl _ _) q)
          exact (total_any _ _ _ ho.ints (by rw [L1]; omega) (sumFits_abs _ 1000 (fun z hz => HQ.out z hz) (by decide) (by rw [L1]; omega))).mono (by rintro e w' ⟨rfl, rfl⟩; exact ⟨rfl, q, rfl⟩)
        have X1 : IntKind.i64.wrap (x * DN) = x * DN := IntWalk.i64_in _ (by omega)
        have hc2 : W = b * (x * DN) := by have := HC.out; rw [Int.add_zero] at this; exact this
        have X3 : IntKind.i64.wrap (b * (x * DN)) = W := by rw [← hc2]; exact IntWalk.i64_in _ (by omega)
        clear hc2 hr0
        have B4 := Lib.hid b3
        generalize tot (x :: rest) = TX at *
        by_cases hp0 : 0 < p
        · have hpd : decide (0 < p) = true := decide_eq_true hp0
          clear o3
          go_wp2
          go_quiet ((first | (go_at_call 42; (first | (with_reducible exact C1.out _) | (with_reducible exact C2.out _) | (with_reducible exact C3.out _))) | (go_at_call 35; with_reducible exact C4.out _)))
          go_wp2
          go_ret
          exact ⟨rfl, below_drewN B4.out _⟩
        · have Y1 : IntKind.i64.wrap (TX * BN) = W := by rw [← HF.out (by omega)]; exact IntWalk.i64_in _ (by omega)
          have hpd : decide (0 < p) = false := decide_eq_false hp0
          clear o3
          go_wp2
          go_quiet ((first | (go_at_call 42; (first | (with_reducible exact C1.out _) | (with_reducible exact C2.out _) | (with_reducible exact C3.out _))) | (go_at_call 35; with_reducible exact C4.out _)))
          go_wp2
          go_ret
          exact ⟨rfl, below_drewN B4.out _⟩

end Go.Proofs.Ytfgafbjofkicdaa
