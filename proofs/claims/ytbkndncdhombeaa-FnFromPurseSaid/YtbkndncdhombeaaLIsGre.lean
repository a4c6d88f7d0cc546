/- The law FnIsGreedy. -/
import Derived.Test.YtbkndncdhombeaaGreIs
import Derived.Test.YtbkndncdhombeaaCoinQs
import Derived.Test.YtbkndncdhombeaaCoinRv
import Derived.Test.YtbkndncdhombeaaCoinR
import Derived.Test.YtbkndncdhombeaaIsGI
import Derived.Test.YtbkndncdhombeaaGreI
import Derived.Test.YtbkndncdhombeaaFcI
import Derived.Test.YtbkndncdhombeaaCoinQ
import Derived.Test.YtbkndncdhombeaaTotL
namespace Go.Proofs.Ytbkndncdhombeaa
open Go.RowKit

theorem endV_eq {cs : List Int} (h : vCoins cs = true) : endV cs = if cs.length = 1 then cs.getD 0 0 else cs.getD (cs.length - 1) 0 + cs.getD (cs.length - 2) 0 := by
  obtain ⟨l1, l5⟩ := vc_len h
  have h2 : cs.drop (cs.length - 2) = if cs.length = 1 then [cs.getD 0 0] else [cs.getD (cs.length - 2) 0, cs.getD (cs.length - 1) 0] := by
    apply List.ext_getElem
    · rw [List.length_drop]; split <;> simp <;> omega
    · intro i h1 h2
      rw [List.length_drop] at h1
      rw [List.getElem_drop]
      have e : ∀ j, (hj : j < cs.length) → cs[j] = cs.getD j 0 := fun j hj => by simp [List.getD, hj]
      rw [e]
      split
      · rename_i hl
        have : i = 0 := by omega
        subst this
        simp [hl]
      · rename_i hl
        rcases (show i = 0 ∨ i = 1 by omega) with rfl | rfl
        · rfl
        · have : cs.length - 2 + 1 = cs.length - 1 := by omega
          simp [this]
  unfold endV
  rw [h2]
  split
  · simp
  · simp only [List.sum_cons, List.sum_nil]
    omega

theorem isgT_succ (cs : List Int) (k : Nat) : isgT cs (k + 1) = (isgT cs k && (gsV cs (k : Int) == fwV cs (k : Int))) := by
  unfold isgT
  rw [List.range_succ, List.all_append]
  simp

/-- The greedy coins and the fewest ones, below 60. -/
theorem gre_few {cs : List Int} (h : vCoins cs = true) (h1 : cs.getD 0 0 = 1) {x : Nat} (hx : x ≤ 120) : cGre cs x = true ∧ cFew cs x = true ∧ greL cs x = grL cs x ∧ fewN cs x = fwV cs x ∧ tot (greL cs x) = gsV cs x := by
  have hr : inR (x : Int) 0 120 = true := by unfold inR; exact decide_eq_true (by omega)
  have hc : cGre cs x = true := by unfold cGre; rw [h, decide_eq_true h1, hr]; rfl
  have hf := cFew_yes h hr (gs_ge (vc_pos h) (by rw [vc_head h, h1]) (show (0 : Int) ≤ x by omega)).1
  have hg : greL cs x = grL cs x := by rw [greL, if_pos hc]
  refine ⟨hc, hf, hg, by rw [fewN, if_pos hf], ?_⟩
  rw [hg]; rfl

set_option maxRecDepth 100000 in
set_option maxHeartbeats 3200000 in
theorem FnIsGreedy_walk (a : Option Addr) (n cap : Nat) (w : World) (h : IsBytes w a n) (hc : n ≤ cap) :
    Calls Try.prog 9 #[.slice a n cap] w fun e w' => e = .returned (.bool true) ∧ Below w.heap.size w w' := by
  by_cases hbig : (1048576 : Int) < (n : Int)
  · go_enter Try.func9, Try.ntmps9
    go_wp2
    go_ret
    exact ⟨rfl, Below.refl _ _⟩
  · go_enter Try.func9, Try.ntmps9
    go_wp2_with fail
    refine (DrawIsGreedy_any a n cap _ h hc).mono ?_
    rintro e w1 ⟨v, cs, rfl, o1, hl6, b1⟩
    have hl : cs.length ≤ 9223372036854775807 := by omega
    clear h
    have HNO : Hid (vCoins cs = false → isgV cs = false) := isg_no1
    have HNO2 : Hid (cs.getD 0 0 ≠ 1 → isgV cs = false) := isg_no2
    have HIS : Hid (∀ (t : Nat), vCoins cs = true → cs.getD 0 0 = 1 → endV cs ≤ t → isgV cs = isgT cs t) := fun t h1 h2 h3 => isgV_is h1 h2 h3
    have HEE : Hid (vCoins cs = true → endV cs = if cs.length = 1 then cs.getD 0 0 else cs.getD (cs.length - 1) 0 + cs.getD (cs.length - 2) 0) := endV_eq
    go_wp2_with fail
    refine (IsGreedy_impl _ cs _ o1.ints (own_cap o1) hl).mono ?_
    rintro e w2 ⟨rfl, d2⟩
    have b2 := b1.trans (d2.mono b1.size)
    have o2 := o1.below d2
    clear o1 b1 d2
    go_wp2_with fail
    refine (IsGreedy_spec _ cs _ o2.ints hl).mono ?_
    rintro e w3 ⟨rfl, d3⟩
    have b3 := b2.trans (d3.mono b2.size)
    have o3 := o2.below d3
    clear o2 b2 d3
    have HSP : Hid (∀ wx v, IsInts wx v cs → Calls Try.prog 33 #[v] wx fun e w' => e = .returned (.bool (isgV cs)) ∧ Below wx.heap.size wx w') := fun wx v hv => IsGreedy_spec v cs wx hv hl
    have hrr : (isgV cs != isgV cs) = false := by simp
    generalize isgV cs = r at *
    cases hv : vCoins cs
    · go_wp2_with fail
      refine (ValidCoins_iat _ cs _ _ o3.ints hl hv).mono ?_
      rintro e w4 ⟨rfl, d4⟩
      have b4 := b3.trans (d4.below.mono b3.size)
      have o4 := o3.below d4.below
      clear o3 b3 d4
      go_wp2_with fail
      refine (HSP.out _ _ o4.ints).mono ?_
      rintro e w5 ⟨rfl, d5⟩
      have b5 := b4.trans (d5.mono b4.size)
      clear o4 b4 d5
      go_wp2
      go_ret
      exact ⟨rfl, b5⟩
    · obtain ⟨l1, l5⟩ := vc_len hv
      go_wp2_with fail
      refine (ValidCoins_iat _ cs _ _ o3.ints hl hv).mono ?_
      rintro e w4 ⟨rfl, d4⟩
      have b4 := b3.trans (d4.below.mono b3.size)
      have o4 := o3.below d4.below
      clear o3 b3 d4
      obtain ⟨bk, off, capv, hbv, hbl, hcl⟩ := o4.ints.at0 l1
      subst hbv
      have c0 := hcl 0 (by omega)
      rw [Nat.add_zero] at c0
      by_cases h1 : cs.getD 0 0 = 1
      · rw [h1] at c0
        have HGF : Hid (∀ k : Nat, k ≤ 120 → cGre cs k = true ∧ cFew cs k = true ∧ greL cs k = grL cs k ∧ fewN cs k = fwV cs k ∧ tot (greL cs k) = gsV cs k) := fun k hk => gre_few hv h1 hk
        have HFI : Hid (∀ k : Nat, k ≤ 120 → SumFits (grL cs (k : Int))) := fun k hk => grL_fits hv (by omega)
        have cA := hcl (cs.length - 1) (by omega)
        have a1 := vc_at hv (i := cs.length - 1) (by omega)
        by_cases hl1 : cs.length = 1
        · have HE : Hid (endV cs = 1) := by show _ = _; rw [endV_eq hv, if_pos hl1, h1]
          have ez : cs.getD (cs.length - 1) 0 = 1 := by rw [show cs.length - 1 = 0 by omega]; exact h1
          rw [ez] at cA
          have hl2 : ¬ (1 : Int) < (cs.length : Int) := by omega
          clear a1 hcl ez hl1
          go_wp2
          go_loopg [7, 8] (Int.toNat 1) (fun g al x wr => ∃ k : Nat, k + g = Int.toNat 1 ∧ x = .int .i64 k ∧ al = .bool (isgT cs k) ∧ Own wr w.heap.size (.slice (some ⟨bk, off, none⟩) cs.length capv) cs ∧ Below w.heap.size w wr)
          case atStart => exact ⟨0, by omega, rfl, rfl, o4, b4⟩
          case round =>
            obtain ⟨k, hkg, rfl, rfl, own, hbw⟩ := hrel
            clear o4 b4 c0
            by_cases hlt : (k : Int) < 1
            · obtain ⟨f1, f2, f3, f4, f5⟩ := HGF.out k (by omega)
              have HSF := Lib.hid (HFI.out k (by omega))
              have hi := own.ints
              go_wp2_with fail
              refine (FewestCoins_impl _ cs k _ hi hl).mono ?_
              rintro e w5 ⟨v5, rfl, o5, b5⟩
              have own5 := own.below b5
              have hb5 := hbw.trans (b5.mono hbw.size)
              rw [f4, f2]
              clear own hbw hi o5 b5 f1 f2 f4
              have hi := own5.ints
              cases ht : isgT cs k
              · have E : Hid (isgT cs (k + 1) = false) := by show _ = _; rw [isgT_succ, ht]; rfl
                clear f3 f5 HSF
                go_wp2
                cases gk with
                | zero => omega
                | succ g =>
                  go_roundg g
                  case measure => omega
                  case rel => exact ⟨k + 1, by omega, by go_num, by rw [E.out], own5, hb5⟩
              · have E : Hid (isgT cs (k + 1) = (gsV cs k == fwV cs k)) := by show _ = _; rw [isgT_succ, ht]; rfl
                go_wp2_with fail
                refine (GreedyCoins_impl _ cs k _ hi hl).mono ?_
                rintro e w6 ⟨v6, rfl, o6, b6⟩
                have own6 := own5.below b6
                have hb6 := hb5.trans (b6.mono hb5.size)
                have hl8 : (greL cs k).length ≤ 9223372036854775807 := by rw [f3, grL_len]; exact hl
                rw [← f3] at HSF
                clear own5 hb5 b6 hi f3
                go_wp2_with fail
                refine (total_any _ _ _ o6.ints hl8 HSF.out).mono ?_
                rintro e w' ⟨rfl, rfl⟩
                rw [f5]
                clear o6 hl8 f5 HSF
                generalize fwV cs (k : Int) = F at *
                generalize gsV cs (k : Int) = G at *
                by_cases hq : G = F
                · have q1 : (G == F) = true := beq_iff_eq.2 hq
                  have q2 : decide (G = F) = true := decide_eq_true hq
                  rw [q1] at E
                  subst hq
                  go_wp2
                  cases gk with
                  | zero => omega
                  | succ g =>
                    go_roundg g
                    case measure => omega
                    case rel => exact ⟨k + 1, by omega, by go_num, by rw [E.out], own6, hb6⟩
                · have q1 : (G == F) = false := beq_eq_false_iff_ne.2 hq
                  have q2 : decide (G = F) = false := decide_eq_false hq
                  rw [q1] at E
                  clear hq
                  go_wp2
                  cases gk with
                  | zero => omega
                  | succ g =>
                    go_roundg g
                    case measure => omega
                    case rel => exact ⟨k + 1, by omega, by go_num, by rw [E.out], own6, hb6⟩
            · have e : isgT cs k = r := (HIS.out k hv h1 (by have := HE.out; omega)).symm
              rw [e]
              have q1 : (r == r) = true := by simp
              go_wp2
              go_ret
              exact ⟨rfl, hbw⟩
        · have HE : Hid (endV cs = cs.getD (cs.length - 1) 0 + cs.getD (cs.length - 2) 0) := by show _ = _; rw [endV_eq hv, if_neg hl1]
          have cB := hcl (cs.length - 2) (by omega)
          have a2 := vc_at hv (i := cs.length - 2) (by omega)
          have hl2 : (1 : Int) < (cs.length : Int) := by omega
          clear hcl hl1
          generalize cs.getD (cs.length - 1) 0 = x1 at *
          generalize cs.getD (cs.length - 2) 0 = x2 at *
          go_wp2
          have HB : 0 ≤ x1 + x2 ∧ x1 + x2 ≤ 60 := by omega
          clear a1 a2 cA cB
          generalize x1 + x2 = M at *
          go_loopg [7, 8] (Int.toNat M) (fun g al x wr => ∃ k : Nat, k + g = Int.toNat M ∧ x = .int .i64 k ∧ al = .bool (isgT cs k) ∧ Own wr w.heap.size (.slice (some ⟨bk, off, none⟩) cs.length capv) cs ∧ Below w.heap.size w wr)
          case atStart => exact ⟨0, by omega, rfl, rfl, o4, b4⟩
          case round =>
            obtain ⟨k, hkg, rfl, rfl, own, hbw⟩ := hrel
            clear o4 b4 c0
            by_cases hlt : (k : Int) < M
            · obtain ⟨f1, f2, f3, f4, f5⟩ := HGF.out k (by omega)
              have HSF := Lib.hid (HFI.out k (by omega))
              have hi := own.ints
              go_wp2_with fail
              refine (FewestCoins_impl _ cs k _ hi hl).mono ?_
              rintro e w5 ⟨v5, rfl, o5, b5⟩
              have own5 := own.below b5
              have hb5 := hbw.trans (b5.mono hbw.size)
              rw [f4, f2]
              clear own hbw hi o5 b5 f1 f2 f4
              have hi := own5.ints
              cases ht : isgT cs k
              · have E : Hid (isgT cs (k + 1) = false) := by show _ = _; rw [isgT_succ, ht]; rfl
                clear f3 f5 HSF
                go_wp2
                cases gk with
                | zero => omega
                | succ g =>
                  go_roundg g
                  case measure => omega
                  case rel => exact ⟨k + 1, by omega, by go_num, by rw [E.out], own5, hb5⟩
              · have E : Hid (isgT cs (k + 1) = (gsV cs k == fwV cs k)) := by show _ = _; rw [isgT_succ, ht]; rfl
                go_wp2_with fail
                refine (GreedyCoins_impl _ cs k _ hi hl).mono ?_
                rintro e w6 ⟨v6, rfl, o6, b6⟩
                have own6 := own5.below b6
                have hb6 := hb5.trans (b6.mono hb5.size)
                have hl8 : (greL cs k).length ≤ 9223372036854775807 := by rw [f3, grL_len]; exact hl
                rw [← f3] at HSF
                clear own5 hb5 b6 hi f3
                go_wp2_with fail
                refine (total_any _ _ _ o6.ints hl8 HSF.out).mono ?_
                rintro e w' ⟨rfl, rfl⟩
                rw [f5]
                clear o6 hl8 f5 HSF
                generalize fwV cs (k : Int) = F at *
                generalize gsV cs (k : Int) = G at *
                by_cases hq : G = F
                · have q1 : (G == F) = true := beq_iff_eq.2 hq
                  have q2 : decide (G = F) = true := decide_eq_true hq
                  rw [q1] at E
                  subst hq
                  go_wp2
                  cases gk with
                  | zero => omega
                  | succ g =>
                    go_roundg g
                    case measure => omega
                    case rel => exact ⟨k + 1, by omega, by go_num, by rw [E.out], own6, hb6⟩
                · have q1 : (G == F) = false := beq_eq_false_iff_ne.2 hq
                  have q2 : decide (G = F) = false := decide_eq_false hq
                  rw [q1] at E
                  clear hq
                  go_wp2
                  cases gk with
                  | zero => omega
                  | succ g =>
                    go_roundg g
                    case measure => omega
                    case rel => exact ⟨k + 1, by omega, by go_num, by rw [E.out], own6, hb6⟩
            · have e : isgT cs k = r := (HIS.out k hv h1 (by have := HE.out; omega)).symm
              rw [e]
              have q1 : (r == r) = true := by simp
              go_wp2
              go_ret
              exact ⟨rfl, hbw⟩
      · have hx : (cs.getD 0 0 != 1) = true := by simpa using h1
        have hx2 : decide (cs.getD 0 0 = 1) = false := decide_eq_false h1
        generalize cs.getD 0 0 = x at *
        go_wp2_with fail
        refine (HSP.out _ _ o4.ints).mono ?_
        rintro e w5 ⟨rfl, d5⟩
        have b5 := b4.trans (d5.mono b4.size)
        clear o4 b4 d5
        go_wp2
        go_ret
        exact ⟨rfl, b5⟩

end Go.Proofs.Ytbkndncdhombeaa
