/- The law FnCarryOf, out of the program's contract. -/
import Derived.Test.YtiffjeclpgcabaaCarV
import Derived.Test.YtiffjeclpgcabaaDrawC
import Derived.Test.YtiffjeclpgcabaaEqQuiet
namespace Go.Proofs.Ytiffjeclpgcabaa
open Go.RowKit

theorem ints_cellC {w : World} {bk off n cap : Nat} {cs : List Int} (h : IsInts w (.slice (some ⟨bk, off, none⟩) n cap) cs) {k : Nat} (hk : k < cs.length) : w.cell? ⟨bk, off + k, none⟩ = some (.int .i64 (cs.getD k 0)) := by
  obtain ⟨a, c, e, hc⟩ := h
  simp only [Value.slice.injEq] at e
  obtain ⟨rfl, _, _⟩ := e
  obtain ⟨b, o, e1, e2⟩ := hc k hk
  simp only [Option.some.injEq, Addr.mk.injEq] at e1
  obtain ⟨rfl, rfl, _⟩ := e1
  exact e2

theorem ints_at0C {w : World} {v : Value} {xs : List Int} (h : IsInts w v xs) (hn : 1 ≤ xs.length) : ∃ b off cap, v = .slice (some ⟨b, off, none⟩) xs.length cap := by
  obtain ⟨a, c, e, hc⟩ := h
  obtain ⟨b, o, e1, _⟩ := hc 0 (by omega)
  exact ⟨b, o, c, by rw [e, e1]⟩

theorem below_drewC {w w' : World} {n : Nat} (h : Below n w w') (hn : n ≤ w'.heap.size) (m : Nat) : Below n w (w'.drewN m) :=
  h.trans ((Drawn.below ⟨m, rfl⟩ : Below w'.heap.size w' (w'.drewN m)).mono hn)
theorem own_drewC {w : World} {B : Nat} {v : Value} {xs : List Int} (h : Own w B v xs) (m : Nat) : Own (w.drewN m) B v xs := h.below (Drawn.below ⟨m, rfl⟩)

theorem carL_at (g m : Int) (xs : List Int) {k : Nat} (h : k < xs.length) : (carL g m xs).getD k 0 = leftC g m (xs.take (k + 1)) := by
  simp [carL, List.getD, h]

theorem cCar_facts {g m : Int} {xs : List Int} (h : cCar g m xs = true) : (0 ≤ g ∧ g ≤ 100000) ∧ (0 ≤ m ∧ m ≤ 100000) ∧ (xs.length : Int) ≤ 12 ∧ ∀ x ∈ xs, 0 ≤ x ∧ x ≤ 100000 := by
  unfold cCar at h
  simp only [Bool.and_eq_true, decide_eq_true_eq] at h
  exact ⟨inR_true h.1.1.1, inR_true h.1.1.2, h.1.2, allQ_true h.2⟩

set_option maxRecDepth 100000 in
set_option maxHeartbeats 3200000 in
theorem FnCarryOf_of (himp : ∀ (g m : Int) (v : Value) (xs : List Int) (wx : World), IsInts wx v xs → xs.length ≤ 9223372036854775807 → Calls Try.prog 44 #[.int .i64 g, .int .i64 m, v] wx fun e w' => ∃ v', e = .returned v' ∧ Own w' wx.heap.size v' (carV g m xs) ∧ Below wx.heap.size wx w')
    (a : Option Addr) (n cap : Nat) (w : World) (h : IsBytes w a n) (hc : n ≤ cap) :
    Calls Try.prog 10 #[.slice a n cap] w fun e w' => e = .returned (.bool true) ∧ Below w.heap.size w w' := by
  by_cases hbig : (1048576 : Int) < (n : Int)
  · clear himp
    go_enter Try.func10, Try.ntmps10
    go_wp2
    go_ret
    exact ⟨rfl, Below.refl _ _⟩
  · have HI := Lib.hid himp
    clear himp
    go_enter Try.func10, Try.ntmps10
    go_wp2_with fail
    refine (DrawCarryOf_any a n cap _ h hc).mono ?_
    rintro e w1 ⟨v, xs, g, m, rfl, o1, hl13, hg, hm, b1⟩
    have hl : xs.length ≤ 9223372036854775807 := by omega
    clear h
    go_wp2_with fail
    refine (HI.out g m _ xs _ o1.ints hl).mono ?_
    rintro e w2 ⟨v2, rfl, p2, d2⟩
    have b2 := b1.trans (d2.mono b1.size)
    have o2 := o1.below d2
    have hlg : (carV g m xs).length ≤ 9223372036854775807 := by unfold carV; split <;> simp [carL_len] <;> omega
    clear o1 b1 d2
    obtain ⟨av2, cv2, rfl, _⟩ := id p2.ints
    go_wp2_with fail
    refine (CarryOf_spec g m _ xs _ o2.ints hl).mono ?_
    rintro e w3 ⟨v3, rfl, p3, d3⟩
    have b3 := b2.trans (d3.mono b2.size)
    have o3 := o2.below d3
    have q3 := p2.below d3
    clear o2 b2 d3 p2
    go_wp2_with fail
    refine (equalInts_quiet _ _ _ _ _ q3.ints p3.ints hlg).mono ?_
    rintro e w' ⟨rfl, mm, rfl⟩
    rw [decide_eq_true rfl]
    have b4 := below_drewC b3 b3.size mm
    have o4 := own_drewC o3 mm
    have q4 := own_drewC q3 mm
    generalize w3.drewN mm = w4 at *
    clear o3 b3 q3 p3
    by_cases h0 : carV g m xs = []
    · have HE := Lib.hid h0
      rw [h0] at q4
      have e0 : (carV g m xs).length = 0 := by rw [h0]; rfl
      rw [e0]
      clear h0 hlg
      go_wp2_with fail
      refine (CarryOf_spec g m _ xs _ o4.ints hl).mono ?_
      rintro e w5 ⟨v5, rfl, p5, d5⟩
      rw [HE.out] at p5
      have b5 := b4.trans (d5.mono b4.size)
      have q5 := q4.below d5
      clear o4 b4 d5 q4
      go_wp2_with fail
      refine (equalInts_quiet _ _ [] [] _ q5.ints p5.ints (by simp)).mono ?_
      rintro e w' ⟨rfl, mm2, rfl⟩
      rw [decide_eq_true rfl]
      have b6 := below_drewC b5 b5.size mm2
      clear q5 p5 b5
      go_wp2
      go_ret
      exact ⟨rfl, b6⟩
    · have hv : cCar g m xs = true := by
        cases hcc : cCar g m xs
        · exact absurd (car_no hcc) h0
        · rfl
      have hcv : carV g m xs = carL g m xs := by rw [carV, if_pos hv]
      obtain ⟨hg1, hm1, hl12, hx⟩ := cCar_facts hv
      have hl1 : 1 ≤ xs.length := by
        rw [hcv] at h0
        have : (carL g m xs).length ≠ 0 := fun e => h0 (List.eq_nil_of_length_eq_zero e)
        rw [carL_len] at this
        omega
      have hgl : (carV g m xs).length = xs.length := by rw [hcv, carL_len]
      have HAT : Hid (∀ k, k < xs.length → (carV g m xs).getD k 0 = leftC g m (xs.take (k + 1))) := by rw [hcv]; exact fun k hk => carL_at g m xs hk
      obtain ⟨bl, offl, cap2, hbv⟩ := ints_at0C q4.ints (by rw [hgl]; exact hl1)
      simp only [Value.slice.injEq] at hbv
      obtain ⟨rfl, z1, rfl⟩ := hbv
      clear z1
      obtain ⟨bk, off, cap1, hbv⟩ := ints_at0C o4.ints hl1
      subst hbv
      rw [hgl] at q4 ⊢
      have HGL := Lib.hid hgl
      have n0 : ((xs.length : Int) == 0) = false := beq_eq_false_iff_ne.2 (by omega)
      have n1 : decide ((xs.length : Int) = 0) = false := decide_eq_false (by omega)
      clear h0 hv hcv hgl hlg
      have HB := Lib.hid b4
      have HO := Lib.hid o4
      have HQ := Lib.hid q4
      clear b4 o4 q4
      go_wp2
      go_loopw [7, 8] (fun l i wr => ∃ (k : Nat) (L : Int), k ≤ xs.length ∧ i = .int .i64 k ∧ l = .int .i64 L ∧ L = leftC g m (xs.take k) ∧ (-(100000 * (k : Int)) ≤ L ∧ L ≤ 100000) ∧ Drawn w4 wr) (fun _ i _ => xs.length - (intOf i).toNat)
      case atStart => exact ⟨0, 0, Nat.zero_le _, rfl, rfl, rfl, by omega, ⟨0, rfl⟩⟩
      case round =>
        obtain ⟨k, L, hk, rfl, rfl, hL, hLb, hd⟩ := hrel
        have HL := Lib.hid hL
        clear hL
        by_cases hlt : k < xs.length
        · have hlk : (k : Int) < (xs.length : Int) := by omega
          have c1 := (hd.cell _).trans (ints_cellC HQ.out.ints (k := k) (by rw [HGL.out]; exact hlt))
          have c2 := (hd.cell _).trans (ints_cellC HO.out.ints (k := k) hlt)
          have hzb := hx (xs.getD k 0) (by rw [getD_is hlt]; exact List.getElem_mem _)
          have e1 := HAT.out k hlt
          rw [leftC_succ g m xs hlt, ← HL.out] at e1
          have e2 := leftC_succ g m xs hlt
          rw [← HL.out] at e2
          rw [e1] at c1
          have E2 := Lib.hid e2
          clear e1 e2
          generalize xs.getD k 0 = z at *
          by_cases hmin : L + g - z ≤ m
          · rw [Int.min_eq_left hmin] at c1 E2
            have n2 : ¬ m < L + g - z := by omega
            go_wp2
            go_quiet (fail)
            go_wp2
            go_roundw
            case rel => exact ⟨k + 1, _, by omega, by go_num, rfl, by rw [E2.out], by omega, hd.more _⟩
            case measure => simp [intOf]; omega
          · rw [Int.min_eq_right (by omega)] at c1 E2
            have n2 : m < L + g - z := by omega
            go_wp2
            go_quiet (fail)
            go_wp2
            go_roundw
            case rel => exact ⟨k + 1, _, by omega, by go_num, rfl, by rw [E2.out], by omega, hd.more _⟩
            case measure => simp [intOf]; omega
        · have b5 : Below w.heap.size w wr := HB.out.trans (hd.below.mono HB.out.size)
          go_wp2
          go_ret
          exact ⟨rfl, b5⟩

end Go.Proofs.Ytiffjeclpgcabaa
