/- The law FnGreedyCoins. -/
import Derived.Test.YtbkndncdhombeaaGreIs
import Derived.Test.YtbkndncdhombeaaCoinYs
import Derived.Test.YtbkndncdhombeaaCoinRv
import Derived.Test.YtbkndncdhombeaaLIsGre
import Derived.Test.YtbkndncdhombeaaLPaidC
import Derived.Test.YtbkndncdhombeaaEqQuiet
namespace Go.Proofs.Ytbkndncdhombeaa
open Go.RowKit

theorem getD_in {xs : List Int} {i : Nat} (hi : i < xs.length) : xs.getD i 0 ∈ xs := by
  rw [show xs.getD i 0 = xs[i] by simp [List.getD, hi]]
  exact List.getElem_mem _

theorem cGre_facts {cs : List Int} {a : Int} (h : cGre cs a = true) : vCoins cs = true ∧ cs.getD 0 0 = 1 ∧ (0 ≤ a ∧ a ≤ 120) := by
  unfold cGre at h
  rw [Bool.and_eq_true, Bool.and_eq_true, decide_eq_true_iff] at h
  exact ⟨h.1.1, h.1.2, inR_true h.2⟩

theorem isg_use {cs : List Int} {x : Int} (h : vCoins cs = true) (h1 : cs.getD 0 0 = 1) (hx : 0 ≤ x) (hn : gsV cs x ≠ fwV cs x) : isgV cs = false := by
  rw [Bool.eq_false_iff]
  intro hc
  rw [isgV_is h h1 (Int.self_le_toNat _)] at hc
  exact hn (isg_any (vc_pos h) (by rw [vc_head h, h1]) (vc_sorted h) (Int.self_le_toNat _) hc hx)

set_option maxRecDepth 100000 in
set_option maxHeartbeats 3200000 in
theorem FnGreedyCoins_walk (a : Option Addr) (n cap : Nat) (w : World) (h : IsBytes w a n) (hc : n ≤ cap) :
    Calls Try.prog 7 #[.slice a n cap] w fun e w' => e = .returned (.bool true) ∧ Below w.heap.size w w' := by
  by_cases hbig : (1048576 : Int) < (n : Int)
  · go_enter Try.func7, Try.ntmps7
    go_wp2
    go_ret
    exact ⟨rfl, Below.refl _ _⟩
  · go_enter Try.func7, Try.ntmps7
    go_wp2_with fail
    refine (DrawGreedyCoins_any a n cap _ h hc).mono ?_
    rintro e w1 ⟨v, cs, x, rfl, o1, hl6, hx, b1⟩
    have hl : cs.length ≤ 9223372036854775807 := by omega
    clear h
    go_wp2_with fail
    refine (GreedyCoins_impl _ cs x _ o1.ints hl).mono ?_
    rintro e w2 ⟨v2, rfl, p2, d2⟩
    have b2 := b1.trans (d2.mono b1.size)
    have o2 := o1.below d2
    have hlg : (greL cs x).length ≤ 9223372036854775807 := by unfold greL; split <;> simp [grL_len] <;> omega
    clear o1 b1 d2
    obtain ⟨av2, cv2, rfl, _⟩ := id p2.ints
    go_wp2_with fail
    refine (GreedyCoins_spec _ cs x _ o2.ints hl).mono ?_
    rintro e w3 ⟨v3, rfl, p3, d3⟩
    have b3 := b2.trans (d3.mono b2.size)
    have o3 := o2.below d3
    have q3 := p2.below d3
    clear o2 b2 d3 p2
    go_wp2_with fail
    refine (equalInts_quiet _ _ _ _ _ q3.ints p3.ints hlg).mono ?_
    rintro e w' ⟨rfl, m, rfl⟩
    rw [decide_eq_true rfl]
    have b4 := below_drewNC b3 (Nat.le_trans b3.size (Nat.le_refl _)) m
    have o4 := own_drewN o3 m
    have q4 := own_drewN q3 m
    generalize w3.drewN m = w4 at *
    clear o3 b3 q3 p3
    cases hv : cGre cs x
    · have E := greL_no hv
      rw [E] at q4
      have HE := Lib.hid E
      have e0 : (greL cs x).length = 0 := by rw [E]; rfl
      rw [e0]
      clear E hlg
      go_wp2_with fail
      refine (GreedyCoins_spec _ cs x _ o4.ints hl).mono ?_
      rintro e w5 ⟨v5, rfl, p5, d5⟩
      rw [HE.out] at p5
      have b5 := b4.trans (d5.mono b4.size)
      have q5 := q4.below d5
      clear o4 b4 d5 q4
      go_wp2_with fail
      refine (equalInts_quiet _ _ [] [] _ q5.ints p5.ints (by simp)).mono ?_
      rintro e w' ⟨rfl, m, rfl⟩
      rw [decide_eq_true rfl]
      have b6 := below_drewNC b5 (Nat.le_trans b5.size (Nat.le_refl _)) m
      clear q5 p5 b5
      go_wp2
      go_ret
      exact ⟨rfl, b6⟩
    · obtain ⟨hvc, h1, hx0⟩ := cGre_facts hv
      obtain ⟨l1, l5⟩ := vc_len hvc
      obtain ⟨k, rfl⟩ : ∃ k : Nat, x = k := ⟨x.toNat, by omega⟩
      obtain ⟨f1, f2, f3, f4, f5⟩ := gre_few hvc h1 (show k ≤ 120 by omega)
      have hdot := grL_dot (cs := cs) (by rw [vc_head hvc, h1]) (k : Int)
      have hge := gs_ge (vc_pos hvc) (by rw [vc_head hvc, h1]) (show (0 : Int) ≤ k by omega)
      have hgl : (greL cs k).length = cs.length := by rw [f3, grL_len]
      have HB : Hid (∀ i, i < cs.length → (0 ≤ cs.getD i 0 ∧ cs.getD i 0 ≤ 30) ∧ (0 ≤ (greL cs k).getD i 0 ∧ (greL cs k).getD i 0 ≤ 2000)) := fun i hi => by
        have c1 := vc_at hvc hi
        have m := getD_in (xs := grL cs k) (i := i) (by rw [grL_len]; exact hi)
        have c2 := grR_le cs.reverse (fun c hc => (vc_pos hvc) c (by simpa using hc)) k (by omega) _ m
        rw [f3]
        omega
      rw [← f3] at hdot
      have HSF : Hid (SumFits (greL cs k)) := by rw [f3]; exact grL_fits hvc (by omega)
      have HIG := Lib.hid (fun hn => isg_use hvc h1 (show (0 : Int) ≤ k by omega) hn)
      have n0 : ((cs.length : Int) == 0) = false := beq_eq_false_iff_ne.2 (by omega)
      have n1 : decide ((cs.length : Int) = 0) = false := decide_eq_false (by omega)
      rw [hgl] at q4 ⊢
      clear f1 f3 hv hvc h1
      go_wp2_with fail
      refine (FewestCoins_impl _ cs k _ o4.ints hl).mono ?_
      rintro e w5 ⟨v5, rfl, p5, d5⟩
      rw [f4, f2]
      have b5 := b4.trans (d5.mono b4.size)
      have o5 := o4.below d5
      have q5 := q4.below d5
      have q5i : IsInts w5 (.slice av2 cs.length cv2) (greL cs k) := q5.ints
      clear o4 b4 d5 p5 q4 f2 f4
      go_wp2_with fail
      refine (paid_any _ _ cs _ _ o5.ints q5i (by omega) hgl HB.out).mono ?_
      rintro e w6 ⟨rfl, d6⟩
      rw [hdot]
      have b6 := b5.trans (d6.below.mono b5.size)
      have o6 := o5.below d6.below
      have q6 := q5.below d6.below
      have q6i : IsInts w6 (.slice av2 cs.length cv2) (greL cs k) := q6.ints
      clear o5 b5 d6 q5 q5i hdot
      have hgl2 : (greL cs k).length ≤ 9223372036854775807 := by omega
      go_wp2_with fail
      refine (total_any _ _ _ q6i hgl2 HSF.out).mono ?_
      rintro e w' ⟨rfl, rfl⟩
      have HTT : Hid (tot (greL cs k) = gsV cs k) := f5
      rw [f5]
      have g1 : decide (fwV cs (k : Int) ≤ gsV cs k) = true := decide_eq_true hge.2
      have g2 : decide (gsV cs (k : Int) ≥ fwV cs k) = true := decide_eq_true hge.2
      have HTO := Lib.hid (fun (_ : Unit) => total_any _ _ _ q6i hgl2 HSF.out)
      generalize gsV cs (k : Int) = G at *
      generalize fwV cs (k : Int) = F at *
      clear f5 hge
      go_wp2_with fail
      refine (HTO.out ()).mono ?_
      rintro e w' ⟨rfl, rfl⟩
      rw [HTT.out]
      by_cases hq : G = F
      · subst hq
        go_wp2
        go_ret
        exact ⟨rfl, b6⟩
      · have q1 : (G == F) = false := beq_eq_false_iff_ne.2 hq
        have q2 : decide (G = F) = false := decide_eq_false hq
        have E := Lib.hid (HIG.out hq)
        clear hq
        go_wp2_with fail
        refine (IsGreedy_impl _ cs _ o6.ints (own_cap o6) hl).mono ?_
        rintro e w7 ⟨rfl, d7⟩
        rw [E.out]
        have b7 := b6.trans (d7.mono b6.size)
        clear o6 b6 d7 q6 q6i
        go_wp2
        go_ret
        exact ⟨rfl, b7⟩

end Go.Proofs.Ytbkndncdhombeaa
