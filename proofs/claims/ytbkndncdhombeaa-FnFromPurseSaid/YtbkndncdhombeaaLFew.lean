/- The law FnFewestCoins. -/
import Derived.Test.YtbkndncdhombeaaCoinKs
import Derived.Test.YtbkndncdhombeaaCoinRv
import Derived.Test.YtbkndncdhombeaaLGre
import Derived.Test.YtbkndncdhombeaaCoinK
namespace Go.Proofs.Ytbkndncdhombeaa
open Go.RowKit

theorem mem_le_sum : ∀ {l : List Int} (_ : ∀ x ∈ l, 0 ≤ x) {k : Int} (_ : k ∈ l), k ≤ l.sum
  | [], _, k, hk => by cases hk
  | x :: l, h, k, hk => by
    have h1 := sum_nonneg l (fun y hy => h y (by simp [hy]))
    have h2 := h x (by simp)
    rw [List.sum_cons]
    rcases List.mem_cons.1 hk with rfl | hk
    · omega
    · have := mem_le_sum (fun y hy => h y (by simp [hy])) hk
      omega

theorem ints_cell {w : World} {bk off n cap : Nat} {cs : List Int} (h : IsInts w (.slice (some ⟨bk, off, none⟩) n cap) cs) {k : Nat} (hk : k < cs.length) : w.cell? ⟨bk, off + k, none⟩ = some (.int .i64 (cs.getD k 0)) := by
  obtain ⟨a, c, e, hc⟩ := h
  simp only [Value.slice.injEq] at e
  obtain ⟨rfl, _, _⟩ := e
  obtain ⟨b, o, e1, e2⟩ := hc k hk
  simp only [Option.some.injEq, Addr.mk.injEq] at e1
  obtain ⟨rfl, rfl, _⟩ := e1
  exact e2

/-- One coin less. -/
theorem few_less {cs : List Int} {a : Int} (h : cFew cs a = true) {i : Nat} (hi : i < cs.length) (hc : cs.getD i 0 ≤ a) :
    (0 ≤ fwV cs (a - cs.getD i 0) ∧ cFew cs (a - cs.getD i 0) = true ∧ fewN cs (a - cs.getD i 0) = fwV cs (a - cs.getD i 0) ∧ fwV cs a ≤ fwV cs (a - cs.getD i 0) + 1 ∧ (0 < (fewL cs a).getD i 0 → fwV cs (a - cs.getD i 0) = fwV cs a - 1)) ∨
    (cFew cs (a - cs.getD i 0) = false ∧ fewN cs (a - cs.getD i 0) = 0 ∧ (fewL cs a).getD i 0 ≤ 0) := by
  obtain ⟨h1, h2, h3⟩ := cFew_facts h
  have hp := vc_pos h1
  have hb := vc_at h1 hi
  have hm := getD_in hi
  have hl : fewL cs a = fcL cs a := by rw [fewL, if_pos h]
  rw [hl]
  by_cases hf : 0 ≤ fwV cs (a - cs.getD i 0)
  · have hy : cFew cs (a - cs.getD i 0) = true := cFew_yes h1 (by unfold inR; exact decide_eq_true (by omega)) hf
    refine .inl ⟨hf, hy, by rw [fewN, if_pos hy], ?_, fun hk => fcL_less hp h3 hi (by omega)⟩
    have hpp := fw_pays hp hf
    have h4 := (fw_le hp (pays_succ.2 ⟨_, hm, hpp⟩)).2
    omega
  · have hy := cFew_no3 (cs := cs) (a := a - cs.getD i 0) (by omega)
    refine .inr ⟨hy, (few_no hy).1, ?_⟩
    by_cases hk : 1 ≤ (fcL cs a).getD i 0
    · have h4 := fcL_less hp h3 hi hk
      have h5 : fwV cs a ≠ 0 := fun e => by have := fw_eq_zero hp e; omega
      omega
    · omega

set_option maxRecDepth 100000 in
set_option maxHeartbeats 3200000 in
theorem FnFewestCoins_walk (a : Option Addr) (n cap : Nat) (w : World) (h : IsBytes w a n) (hc : n ≤ cap) :
    Calls Try.prog 5 #[.slice a n cap] w fun e w' => e = .returned (.bool true) ∧ Below w.heap.size w w' := by
  by_cases hbig : (1048576 : Int) < (n : Int)
  · go_enter Try.func5, Try.ntmps5
    go_wp2
    go_ret
    exact ⟨rfl, Below.refl _ _⟩
  · go_enter Try.func5, Try.ntmps5
    go_wp2_with fail
    refine (DrawFewestCoins_any a n cap _ h hc).mono ?_
    rintro e w1 ⟨v, cs, x, rfl, o1, hl6, hx, b1⟩
    have hl : cs.length ≤ 9223372036854775807 := by omega
    clear h
    go_wp2_with fail
    refine (FewestCoins_impl _ cs x _ o1.ints hl).mono ?_
    rintro e w2 ⟨v2, rfl, p2, d2⟩
    have b2 := b1.trans (d2.mono b1.size)
    have o2 := o1.below d2
    have hlg : (fewL cs x).length ≤ 9223372036854775807 := by unfold fewL; split <;> simp [fcL_len] <;> omega
    clear o1 b1 d2
    obtain ⟨av2, cv2, rfl, _⟩ := id p2.ints
    go_wp2_with fail
    refine (FewestCoins_spec _ cs x _ o2.ints hl).mono ?_
    rintro e w3 ⟨v3, rfl, p3, d3⟩
    have b3 := b2.trans (d3.mono b2.size)
    have o3 := o2.below d3
    have q3 := p2.below d3
    have n1 : (fewN cs x != fewN cs x) = false := by simp
    have n2 : (fewN cs x == fewN cs x) = true := by simp
    have n3 : (cFew cs x != cFew cs x) = false := by simp
    have n4 : (cFew cs x == cFew cs x) = true := by simp
    clear o2 b2 d3 p2
    go_wp2_with fail
    refine (equalInts_quiet _ _ _ _ _ q3.ints p3.ints hlg).mono ?_
    rintro e w' ⟨rfl, m, rfl⟩
    rw [decide_eq_true rfl]
    have b4 := below_drewNC b3 (Nat.le_trans b3.size (Nat.le_refl _)) m
    have o4 := own_drewN o3 m
    have q4 := own_drewN q3 m
    have p4 := own_drewN p3 m
    generalize w3.drewN m = w4 at *
    clear o3 b3 q3 p3
    cases hv : cFew cs x
    · rw [hv] at n3 n4
      go_wp2_with fail
      refine (equalInts_quiet _ _ _ _ _ q4.ints p4.ints hlg).mono ?_
      rintro e w' ⟨rfl, m, rfl⟩
      rw [decide_eq_true rfl]
      have b5 := below_drewNC b4 (Nat.le_trans b4.size (Nat.le_refl _)) m
      clear q4 p4 b4
      go_wp2
      go_ret
      exact ⟨rfl, b5⟩
    · obtain ⟨hvc, hx0, hfw⟩ := cFew_facts hv
      obtain ⟨l1, l5⟩ := vc_len hvc
      have hfL : fewL cs x = fcL cs x := by rw [fewL, if_pos hv]
      have hfN : fewN cs x = fwV cs x := by rw [fewN, if_pos hv]
      obtain ⟨hsum, hdot⟩ := fcL_facts (vc_pos hvc) hfw
      have hgl : (fewL cs x).length = cs.length := by rw [hfL, fcL_len]
      have HN : Hid (∀ k ∈ fewL cs x, 0 ≤ k) := by rw [hfL]; exact fcL_nonneg cs x
      have hub := fw_bound (vc_pos hvc) hfw
      rw [← hfL] at hsum hdot
      have HLE : Hid (∀ k ∈ fewL cs x, k ≤ 120) := fun k hk => by
        have := mem_le_sum HN.out hk
        omega
      have HB : Hid (∀ i, i < cs.length → (0 ≤ cs.getD i 0 ∧ cs.getD i 0 ≤ 30) ∧ (0 ≤ (fewL cs x).getD i 0 ∧ (fewL cs x).getD i 0 ≤ 2000)) := fun i hi => by
        have c1 := vc_at hvc hi
        have m := getD_in (xs := fewL cs x) (i := i) (by rw [hgl]; exact hi)
        have c2 := HN.out _ m
        have c3 := HLE.out _ m
        omega
      have HSF : Hid (SumFits (fewL cs x)) := sumFits_abs _ 120 (fun z hz => by have c2 := HN.out _ hz; have c3 := HLE.out _ hz; omega) (by decide) (by rw [hgl]; omega)
      have HLS := Lib.hid (fun i (hi : i < cs.length) hc => few_less hv hi hc)
      have HC := Lib.hid (fun i (hi : i < cs.length) => vc_at hvc hi)
      rw [hv] at n3 n4
      rw [hgl] at q4 ⊢
      have HFN := Lib.hid hfN
      rw [hfN] at n1 n2 ⊢
      have HS : Hid (tot (fewL cs x) = fwV cs x) := hsum
      have HD := Lib.hid hdot
      have HFB0 : ∀ y, 0 ≤ fwV cs y → fwV cs y ≤ y := fun y => fw_bound (vc_pos hvc)
      clear hfL hfN hsum hdot hv hvc p4
      have HFB := Lib.hid HFB0
      clear HFB0
      obtain ⟨bk, off, cap1, hbv, z1, z2⟩ := o4.ints.at0 l1
      clear z1 z2
      subst hbv
      obtain ⟨bl, offl, cap2, hbv, z1, z2⟩ := q4.ints.at0 (by rw [hgl]; exact l1)
      clear z1 z2
      simp only [Value.slice.injEq] at hbv
      obtain ⟨rfl, z1, rfl⟩ := hbv
      clear z1
      go_wp2
      go_loopg [11] cs.length (fun g i wr => ∃ k : Nat, k + g = cs.length ∧ i = .int .i64 k ∧ Own wr w.heap.size (.slice (some ⟨bk, off, none⟩) cs.length cap1) cs ∧ Own wr w1.heap.size (.slice (some ⟨bl, offl, none⟩) cs.length cv2) (fewL cs x) ∧ Below w.heap.size w wr)
      case atStart => exact ⟨0, by omega, rfl, o4, q4, b4⟩
      case round =>
        obtain ⟨k, hkg, rfl, own, qwn, hbw⟩ := hrel
        clear o4 b4 q4
        by_cases hlt : k < cs.length
        · have hc1 := ints_cell own.ints hlt
          have hls := HLS.out k hlt
          have hcb := HC.out k hlt
          have hlb := HB.out k hlt
          have HK := Lib.hid hkg
          clear hkg
          have hlk : (k : Int) < (cs.length : Int) := by omega
          have hi := own.ints
          generalize cs.getD k 0 = c at *
          by_cases hca : c ≤ x
          · have hls := hls hca
            go_wp2_with fail
            refine (FewestCoins_impl _ cs (x - c) _ hi hl).mono ?_
            rintro e w5 ⟨v5, rfl, p5, d5⟩
            have b5 := hbw.trans (d5.mono hbw.size)
            have o5 := own.below d5
            have q5 := qwn.below d5
            have hc2 := ints_cell q5.ints (k := k) (by rw [hgl]; exact hlt)
            have hfb := HFB.out (x - c)
            clear own hbw hi hc1 d5 p5 qwn
            generalize (fewL cs x).getD k 0 = l at *
            rcases hls with ⟨A1, A2, A3, A4, A5⟩ | ⟨A1, A2, A3⟩
            · rw [A3, A2]
              have hfb := hfb A1
              clear A2 A3
              generalize fwV cs (x - c) = F at *
              generalize fwV cs x = N at *
              have ng : ¬ F + 1 < N := by omega
              have ng2 : ¬ N > F + 1 := by omega
              by_cases hlp : 0 < l
              · have e := A5 hlp
                have ne1 : (F != N - 1) = false := by simp [e]
                clear A5 e
                go_wp2
                cases gk with
                | zero => have := HK.out; omega
                | succ g =>
                  go_roundg g
                  case measure => omega
                  case rel => exact ⟨k + 1, by have := HK.out; omega, by go_num, o5, q5, b5⟩
              · clear A5
                go_wp2
                cases gk with
                | zero => have := HK.out; omega
                | succ g =>
                  go_roundg g
                  case measure => omega
                  case rel => exact ⟨k + 1, by have := HK.out; omega, by go_num, o5, q5, b5⟩
            · rw [A1, A2]
              have hlp : ¬ 0 < l := by omega
              clear A1 A2
              generalize fwV cs x = N at *
              go_wp2
              cases gk with
              | zero => have := HK.out; omega
              | succ g =>
                go_roundg g
                case measure => omega
                case rel => exact ⟨k + 1, by have := HK.out; omega, by go_num, o5, q5, b5⟩
          · clear hls
            go_wp2
            cases gk with
            | zero => have := HK.out; omega
            | succ g =>
              go_roundg g
              case measure => omega
              case rel => exact ⟨k + 1, by have := HK.out; omega, by go_num, own, qwn, hbw⟩
        · have hlk : ¬ (k : Int) < (cs.length : Int) := by omega
          have qi := qwn.ints
          have oi := own.ints
          clear hkg
          go_wp2_with fail
          refine (total_any _ _ _ qi (by omega) HSF.out).mono ?_
          rintro e w' ⟨rfl, rfl⟩
          rw [HS.out]
          have HDE : Hid (dotL cs (fewL cs x) = x) := HD.out
          generalize fwV cs x = N at *
          go_wp2_with fail
          refine (paid_any _ _ cs _ _ oi qi (by omega) hgl HB.out).mono ?_
          rintro e w6 ⟨rfl, d6⟩
          rw [HDE.out]
          have b6 := hbw.trans (d6.below.mono hbw.size)
          clear own qwn qi oi d6 hbw
          go_wp2
          go_ret
          exact ⟨rfl, b6⟩

end Go.Proofs.Ytbkndncdhombeaa
