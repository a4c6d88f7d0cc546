/- The law FnFromPurse. -/
import Derived.Test.YtbkndncdhombeaaCoinRv
import Derived.Test.YtbkndncdhombeaaLFew
import Derived.Test.YtbkndncdhombeaaPurI
namespace Go.Proofs.Ytbkndncdhombeaa
open Go.RowKit

/-- Are the first k counts in the purse? -/
def enB (ks ps : List Int) (k : Nat) : Bool := (List.range k).all fun j => decide (ks.getD j 0 ≤ ps.getD j 0)

theorem enB_succ (ks ps : List Int) (k : Nat) : enB ks ps (k + 1) = (enB ks ps k && decide (ks.getD k 0 ≤ ps.getD k 0)) := by
  unfold enB
  rw [List.range_succ, List.all_append]
  simp

theorem enB_all {ks ps : List Int} {k : Nat} (h : enB ks ps k = true) {j : Nat} (hj : j < k) : ks.getD j 0 ≤ ps.getD j 0 := by
  unfold enB at h
  rw [List.all_eq_true] at h
  exact of_decide_eq_true (h j (by simpa using hj))

theorem okPur_facts {cs ps : List Int} {a : Int} (h : okPur cs ps a = true) : vCoins cs = true ∧ ps.length = cs.length ∧ (0 ≤ a ∧ a ≤ 120) ∧ (∀ k ∈ ps, 0 ≤ k ∧ k ≤ 6) ∧ 0 ≤ fpR (prs cs ps) a := by
  unfold okPur cPur at h
  rw [Bool.and_eq_true, Bool.and_eq_true, Bool.and_eq_true, Bool.and_eq_true, decide_eq_true_iff, decide_eq_true_iff] at h
  exact ⟨h.1.1.1.1, h.1.1.1.2, inR_true h.1.1.2, vPurse_iff.1 h.1.2, h.2⟩

theorem pur_law {cs ps : List Int} {a : Int} (h : okPur cs ps a = true) : cFew cs a = true ∧ fwV cs a ≤ fpR (prs cs ps) a ∧ fpR (prs cs ps) a ≤ ps.sum ∧ (enB (fcL cs a) ps cs.length = true → fpR (prs cs ps) a = fwV cs a) := by
  obtain ⟨h1, h2, h3, h4, h5⟩ := okPur_facts h
  have hp := vc_pos h1
  have hk : ∀ k ∈ ps, 0 ≤ k := fun k hk => (h4 k hk).1
  have hP := prs_purse hp hk
  have hb := fp_bp hP h5
  have hy := fw_le hp (prs_pays hp hk hb)
  have hf := cFew_yes h1 (by unfold inR; exact decide_eq_true (by omega)) hy.1
  refine ⟨hf, by omega, prs_most h2 hb, fun he => ?_⟩
  obtain ⟨hsum, hdot⟩ := fcL_facts hp hy.1
  have hc := prs_counts (ks := fcL cs a) h2 (fcL_len cs a) (fun i hi => ⟨fcL_nonneg cs a _ (getD_in hi), enB_all he (by rw [← fcL_len cs a]; exact hi)⟩)
  rw [hsum, hdot] at hc
  have := (fp_of hP hc).2
  omega

set_option maxRecDepth 100000 in
set_option maxHeartbeats 3200000 in
theorem FnFromPurse_walk (a : Option Addr) (n cap : Nat) (w : World) (h : IsBytes w a n) (hc : n ≤ cap) :
    Calls Try.prog 13 #[.slice a n cap] w fun e w' => e = .returned (.bool true) ∧ Below w.heap.size w w' := by
  by_cases hbig : (1048576 : Int) < (n : Int)
  · go_enter Try.func13, Try.ntmps13
    go_wp2
    go_ret
    exact ⟨rfl, Below.refl _ _⟩
  · go_enter Try.func13, Try.ntmps13
    go_wp2_with fail
    refine (DrawFromPurse_any a n cap _ h hc).mono ?_
    rintro e w1 ⟨v, cs, u, ps, x, rfl, o1, u1, hl6, hl7, hx, b1⟩
    have hl : cs.length ≤ 9223372036854775807 := by omega
    have hm : ps.length ≤ 9223372036854775807 := by omega
    clear h
    have n1 : (purV cs ps x != purV cs ps x) = false := by simp
    have n2 : (purV cs ps x == purV cs ps x) = true := by simp
    have n3 : (okPur cs ps x != okPur cs ps x) = false := by simp
    have n4 : (okPur cs ps x == okPur cs ps x) = true := by simp
    go_wp2_with fail
    refine (FromPurse_impl _ _ cs ps x _ o1.ints hl u1.ints hm).mono ?_
    rintro e w2 ⟨rfl, d2⟩
    have b2 := b1.trans (d2.mono b1.size)
    have o2 := o1.below d2
    have u2 := u1.below d2
    clear o1 u1 b1 d2
    go_wp2_with fail
    refine (FromPurse_spec _ _ cs ps x _ o2.ints hl u2.ints hm).mono ?_
    rintro e w3 ⟨rfl, d3⟩
    have b3 := b2.trans (d3.mono b2.size)
    have o3 := o2.below d3
    have u3 := u2.below d3
    clear o2 u2 b2 d3
    cases hv : okPur cs ps x
    · rw [hv] at n3 n4
      go_wp2
      go_ret
      exact ⟨rfl, b3⟩
    · obtain ⟨L1, L2, L3, L4⟩ := pur_law hv
      obtain ⟨hvc, hpl, hx0, hps, hfp⟩ := okPur_facts hv
      obtain ⟨l1, l5⟩ := vc_len hvc
      have hpV : purV cs ps x = fpR (prs cs ps) x := by rw [purV, if_pos hv]
      have hfL : fewL cs x = fcL cs x := by rw [fewL, if_pos L1]
      have hfN : fewN cs x = fwV cs x := by rw [fewN, if_pos L1]
      have hgl : (fewL cs x).length = cs.length := by rw [hfL, fcL_len]
      have HSF : Hid (SumFits ps) := sumFits_abs _ 6 (fun z hz => by have c2 := hps _ hz; omega) (by decide) (by omega)
      rw [← hfL] at L4
      have HL4 := Lib.hid L4
      have HSU : Hid (tot ps = ps.sum) := rfl
      rw [hv] at n3 n4
      rw [hpV] at n1 n2
      have HPV := Lib.hid hpV
      clear L4 hfL hv hvc hps hfp hpV n2 n4
      rw [HPV.out]
      generalize ps.sum = S at *
      generalize fpR (prs cs ps) x = R at *
      go_wp2_with fail
      refine (FewestCoins_impl _ cs x _ o3.ints hl).mono ?_
      rintro e w4 ⟨v4, rfl, p4, d4⟩
      rw [hfN, L1]
      have b4 := b3.trans (d4.mono b3.size)
      have u4 := u3.below d4
      clear o3 u3 b3 d4 hfN L1
      obtain ⟨bl, offl, cap2, hbv, z1, z2⟩ := p4.ints.at0 (by rw [hgl]; exact l1)
      clear z1 z2
      subst hbv
      rw [hgl] at p4 ⊢
      obtain ⟨bk, off, cap1, hbv, z1, z2⟩ := u4.ints.at0 (by rw [hpl]; exact l1)
      clear z1 z2
      subst hbv
      rw [hpl] at u4 ⊢
      have HGL := Lib.hid hgl
      have HPL := Lib.hid hpl
      clear hgl hpl
      go_wp2
      go_loopw [13, 14] (fun en i wr => ∃ k : Nat, k ≤ cs.length ∧ i = .int .i64 k ∧ en = .bool (enB (fewL cs x) ps k) ∧ Drawn w4 wr) (fun _ i _ => cs.length - (intOf i).toNat)
      case atStart => exact ⟨0, Nat.zero_le _, rfl, rfl, ⟨0, rfl⟩⟩
      case round =>
        obtain ⟨k, hk, rfl, rfl, hd⟩ := hrel
        by_cases hlt : k < cs.length
        · have hlk : (k : Int) < (cs.length : Int) := by omega
          have c1 := (hd.cell _).trans (ints_cell p4.ints (k := k) (by rw [HGL.out]; exact hlt))
          have c2 := (hd.cell _).trans (ints_cell u4.ints (k := k) (by rw [HPL.out]; exact hlt))
          have HE := Lib.hid (enB_succ (fewL cs x) ps k)
          clear b4 p4 u4 HL4
          generalize (fewL cs x).getD k 0 = y at *
          generalize ps.getD k 0 = z at *
          cases ht : enB (fewL cs x) ps k
          · rw [ht] at HE
            go_wp2
            go_quiet (fail)
            go_wp2
            go_roundw
            case rel => exact ⟨k + 1, by omega, by go_num, by rw [HE.out]; rfl, hd.more _⟩
            case measure => simp [intOf]; omega
          · rw [ht, Bool.true_and] at HE
            by_cases hyz : y ≤ z
            · have g1 : decide (y ≤ z) = true := decide_eq_true hyz
              rw [g1] at HE
              go_wp2
              go_quiet (fail)
              go_wp2
              go_roundw
              case rel => exact ⟨k + 1, by omega, by go_num, by rw [HE.out], hd.more _⟩
              case measure => simp [intOf]; omega
            · have g1 : decide (y ≤ z) = false := decide_eq_false hyz
              rw [g1] at HE
              go_wp2
              go_quiet (fail)
              go_wp2
              go_roundw
              case rel => exact ⟨k + 1, by omega, by go_num, by rw [HE.out], hd.more _⟩
              case measure => simp [intOf]; omega
        · have hlk : ¬ (k : Int) < (cs.length : Int) := by omega
          have e : k = cs.length := by omega
          subst e
          have b5 : Below w.heap.size w wr := b4.trans (hd.below.mono b4.size)
          have u5 := (u4.below hd.below).ints
          clear b4 p4 u4 hd
          have g1 : decide (fwV cs x ≤ R) = true := decide_eq_true L2
          have g2 : decide (R ≤ S) = true := decide_eq_true L3
          generalize fwV cs x = F at *
          go_wp2_with fail
          refine (total_any _ _ _ u5 hm HSF.out).mono ?_
          rintro e w' ⟨rfl, rfl⟩
          rw [HSU.out]
          cases ht : enB (fewL cs x) ps cs.length
          · go_wp2
            go_ret
            exact ⟨rfl, b5⟩
          · have e := HL4.out ht
            subst e
            go_wp2
            go_ret
            exact ⟨rfl, b5⟩

end Go.Proofs.Ytbkndncdhombeaa
