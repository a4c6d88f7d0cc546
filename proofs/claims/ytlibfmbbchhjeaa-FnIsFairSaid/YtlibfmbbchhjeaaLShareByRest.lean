/- The law FnShareByRest: the walk. -/
import Derived.Test.YtlibfmbbchhjeaaRests
import Derived.Test.YtlibfmbbchhjeaaOwnH
import Derived.Test.YtlibfmbbchhjeaaDraws
import Derived.Test.YtlibfmbbchhjeaaRestI
import Derived.Test.YtlibfmbbchhjeaaRestM
namespace Go.Proofs.Ytlibfmbbchhjeaa
open Go.RowKit

set_option maxHeartbeats 400000 in
theorem total_any (v : Value) (xs : List Int) (w : World) (hv : IsInts w v xs) (hl : xs.length ≤ 9223372036854775807) (hs : SumFits xs) :
    Calls Try.prog 25 #[v] w fun e w' => e = .returned (.int .i64 (tot xs)) ∧ w = w' := by
  obtain ⟨a, cap, rfl, hc⟩ := hv
  go_enter Try.func25, Try.ntmps25
  go_wp2
  go_loop [3, 4] (fun t i => ∃ k : Nat, k ≤ xs.length ∧ i = .int .i64 k ∧ t = .int .i64 (tot (xs.take k))) (fun _ i => xs.length - (intOf i).toNat)
  case atStart => exact ⟨0, Nat.zero_le _, rfl, rfl⟩
  case round =>
    obtain ⟨k, hk, rfl, rfl⟩ := hrel
    by_cases hlt : k < xs.length
    · obtain ⟨b, off, rfl, hcell⟩ := hc k hlt
      have hsk := tot_take_succ xs k hlt
      have h1 := hs (k + 1)
      have h0 := hs k
      rw [hsk] at h1
      have HS := Lib.hid hsk
      clear hsk
      go_wp2
      go_round
      case rel => exact ⟨k + 1, by omega, by go_num, by rw [HS.out]⟩
      case measure => simp [intOf]; omega
    · go_wp2
      go_ret
      exact ⟨ret_int (by rw [List.take_of_length_le (by omega)]), rfl⟩

set_option maxRecDepth 100000 in
set_option maxHeartbeats 3200000 in
theorem FnShareByRest_walk (a : Option Addr) (n cap : Nat) (w : World) (h : IsBytes w a n) (hc : n ≤ cap) :
    Calls Try.prog 4 #[.slice a n cap] w fun e w' => e = .returned (.bool true) ∧ Below w.heap.size w w' := by
  by_cases hbig : (1048576 : Int) < (n : Int)
  · go_enter Try.func4, Try.ntmps4
    go_wp2
    go_ret
    exact ⟨rfl, Below.refl _ _⟩
  · go_enter Try.func4, Try.ntmps4
    go_wp2_with fail
    refine (DrawShareByRest_any a n cap w h hc).mono ?_
    rintro e w1 ⟨t, v, xs, rfl, ht, o1, wx, b1⟩
    have hl9 := wx.1
    have hl : xs.length ≤ 9223372036854775807 := by omega
    have hL := restL_length t xs
    go_wp2_with fail
    refine (ShareByRest_impl t v xs _ o1.ints hl).mono ?_
    rintro e w2 ⟨v2, rfl, o2, hb2⟩
    have b2 : Below w.heap.size w w2 := b1.trans (hb2.mono b1.size)
    have o1a := o1.below hb2
    clear o1 hb2
    go_wp2_with fail
    refine (ShareByRest_spec t v xs _ o1a.ints hl).mono ?_
    rintro e w3 ⟨v3, rfl, o3, hb3⟩
    have b3 : Below w.heap.size w w3 := b2.trans (hb3.mono b2.size)
    have o1b := o1a.below hb3
    have o2a := o2.below hb3
    clear o1a o2 hb3
    go_wp2_with fail
    refine (equalInts_any _ _ _ _ _ o2a.ints o3.ints (by omega)).mono ?_
    rintro e w4 ⟨rfl, hb4⟩
    have b4 : Below w.heap.size w w4 := b3.trans (hb4.mono b3.size)
    have o1c := o1b.below hb4
    have o2b := o2a.below hb4
    have hv1 := o1c.ints
    have hv2 := o2b.ints
    clear o1b o2a o3 hb4 b2 b3
    obtain ⟨av, cv, rfl, _⟩ := o2b.ints
    obtain ⟨aw, cw, rfl, _⟩ := o1c.ints
    clear o1c o2b
    cases hcs : cShare t xs
    · have hnil : restL t xs = [] := by rw [restL, hcs]; rfl
      have e0 : (((restL t xs).length : Int) == 0) = true := by rw [hnil]; rfl
      clear hnil
      go_wp2_with fail
      refine (ShareByRest_spec t _ xs _ hv1 hl).mono ?_
      rintro e w5 ⟨v5, rfl, o5, hb5⟩
      have b5 : Below w.heap.size w w5 := b4.trans (hb5.mono b4.size)
      have hv5 := hv2.below hb5
      go_wp2_with fail
      refine (equalInts_any _ _ _ _ _ hv5 o5.ints (by omega)).mono ?_
      rintro e w6 ⟨rfl, hb6⟩
      have b6 : Below w.heap.size w w6 := b5.trans (hb6.mono b5.size)
      go_wp2
      go_ret
      exact ⟨ret_bool (by simp), b6⟩
    · have hlen : (restL t xs).length = xs.length := by rw [restL, if_pos hcs]; simp
      have hxn := (vParts_facts (cShare_facts hcs).2.2).1
      have e0 : (((restL t xs).length : Int) == 0) = false := by rw [hlen, beq_eq_false_iff_ne]; omega
      have HL := Lib.hid hlen
      have HC := Lib.hid hcs
      have HV1 := Lib.hid hv1
      have HV2 := Lib.hid hv2
      clear hlen hcs hv1 hv2
      go_wp2
      go_loopw [6] (fun i wr => ∃ k : Nat, k ≤ xs.length ∧ i = .int .i64 k ∧ Below w4.heap.size w4 wr) (fun i _ => xs.length - (intOf i).toNat)
      case atStart => exact ⟨0, Nat.zero_le _, rfl, Below.refl _ _⟩
      case round =>
        obtain ⟨i, hi, rfl, hbi⟩ := hrel
        by_cases hlt : i < xs.length
        · obtain ⟨wo, rfl⟩ : ∃ wo : World, wo = wr := ⟨_, rfl⟩
          go_wp2
          go_loopw [7] (fun j wr => ∃ k : Nat, k ≤ xs.length ∧ j = .int .i64 k ∧ Below w4.heap.size w4 wr) (fun j _ => xs.length - (intOf j).toNat)
          case atStart => exact ⟨0, Nat.zero_le _, rfl, hbi⟩
          case round =>
            clear hbi
            obtain ⟨k, hk, rfl, hbk⟩ := hrel
            by_cases hlk : k < xs.length
            · obtain ⟨aw', cw', ew, hcw⟩ := HV1.out.below hbk
              obtain ⟨av', cv', ev, hcv⟩ := HV2.out.below hbk
              simp only [Value.slice.injEq, true_and] at ew ev
              obtain ⟨rfl, rfl⟩ := ew
              obtain ⟨rfl, rfl⟩ := ev
              obtain ⟨b1', f1, rfl, ci⟩ := hcw i hlt
              obtain ⟨b1'', f1', e1, ck⟩ := hcw k hlk
              simp only [Option.some.injEq, Addr.mk.injEq, and_true] at e1
              obtain ⟨rfl, rfl⟩ := e1
              obtain ⟨b2', f2, rfl, di⟩ := hcv i (by rw [HL.out]; exact hlt)
              obtain ⟨b2'', f2', e2, dk⟩ := hcv k (by rw [HL.out]; exact hlk)
              simp only [Option.some.injEq, Addr.mk.injEq, and_true] at e2
              obtain ⟨rfl, rfl⟩ := e2
              have ri : (restL t xs).getD i 0 = restAt t xs i := by rw [restL, if_pos HC.out, getD_range _ _ _ hlt]
              have rk : (restL t xs).getD k 0 = restAt t xs k := by rw [restL, if_pos HC.out, getD_range _ _ _ hlk]
              rw [ri] at di
              rw [rk] at dk
              have hmono := fun hw : xs.getD k 0 < xs.getD i 0 => rest_mono HC.out hlt hw
              have hsame := fun (hw : xs.getD i 0 = xs.getD k 0) (hik : i < k) => rest_same (t := t) hlt hw hik
              have qk := (qr_facts HC.out k).1
              have bk : -1000000000 ≤ restAt t xs k ∧ restAt t xs k ≤ 1000000000 := by unfold restAt; split <;> omega
              have i1 : (i : Int) < (xs.length : Int) := by omega
              have i2 : (k : Int) < (xs.length : Int) := by omega
              have i3 : (i : Int) < ((restL t xs).length : Int) := by rw [HL.out]; omega
              have i4 : (k : Int) < ((restL t xs).length : Int) := by rw [HL.out]; omega
              generalize xs.getD i 0 = wi at ci hmono hsame
              generalize xs.getD k 0 = wk at ck hmono hsame
              generalize restAt t xs i = ri' at di hmono hsame
              generalize restAt t xs k = rk' at dk hmono hsame bk
              clear ri rk hcw hcv qk
              by_cases hgt : wk < wi
              · have hd1 : decide (wk < wi) = true := decide_eq_true hgt
                have hd2 : decide (ri' < rk') = false := decide_eq_false (by have := hmono hgt; omega)
                have hd3 : (wi == wk) = false := by simp; omega
                clear hmono hsame
                go_wp2
                go_quiet (fail)
                go_wp2
                go_roundw
                case rel => exact ⟨k + 1, by omega, by go_num, below_drewN hbk _⟩
                case measure => simp [intOf]; omega
              · have hd1 : decide (wk < wi) = false := decide_eq_false hgt
                by_cases heq : wi = wk
                · have hd3 : (wi == wk) = true := by simp [heq]
                  by_cases hik : i < k
                  · have hs := hsame heq hik
                    have hd4 : decide ((i : Int) < (k : Int)) = true := decide_eq_true (by omega)
                    have hd5 : decide (ri' < rk') = false := decide_eq_false (by omega)
                    have hd6 : decide (rk' + 1 < ri') = false := decide_eq_false (by omega)
                    clear hmono hsame heq
                    go_wp2
                    go_quiet (fail)
                    go_wp2
                    go_roundw
                    case rel => exact ⟨k + 1, by omega, by go_num, below_drewN hbk _⟩
                    case measure => simp [intOf]; omega
                  · have hd4 : decide ((i : Int) < (k : Int)) = false := decide_eq_false (by omega)
                    clear hmono hsame heq
                    go_wp2
                    go_quiet (fail)
                    go_wp2
                    go_roundw
                    case rel => exact ⟨k + 1, by omega, by go_num, below_drewN hbk _⟩
                    case measure => simp [intOf]; omega
                · have hd3 : (wi == wk) = false := by simpa using heq
                  clear hmono hsame
                  go_wp2
                  go_quiet (fail)
                  go_wp2
                  go_roundw
                  case rel => exact ⟨k + 1, by omega, by go_num, below_drewN hbk _⟩
                  case measure => simp [intOf]; omega
            · go_wp2
              go_roundw
              case rel => exact ⟨i + 1, by omega, by go_num, hbk⟩
              case measure => simp [intOf]; omega
        · have hv1 := HV1.out.below hbi
          have hv2 := HV2.out.below hbi
          obtain ⟨t0, t1, hvp⟩ := cShare_facts HC.out
          obtain ⟨hlen, hall, s0, s1, hsf⟩ := vParts_facts hvp
          have hfy := fits_of_ok t0 t1 hall s0 s1 HL.out (fun k hk => rest_ok HC.out k hk)
          have hft : Fits (restL t xs) := fun y hy => by have := hfy y hy; omega
          have hsy := sumFits_of (restL t xs) 5000400 hfy (by omega) (by omega)
          have HF := Lib.hid (rest_fair HC.out)
          have HT := Lib.hid (rest_tot HC.out)
          have bi : Below w.heap.size w wr := b4.trans (hbi.mono b4.size)
          have hlr : (restL t xs).length ≤ 9223372036854775807 := by omega
          clear hvp hall hsf
          go_wp2_with fail
          refine (IsFair_impl t _ _ xs (restL t xs) _ hv1 hl hv2 hlr hft).mono ?_
          rw [HF.out]
          rintro e w5 ⟨rfl, hb5⟩
          have b5 : Below w.heap.size w w5 := bi.trans (hb5.mono bi.size)
          have hv5 := hv2.below hb5
          clear hb5 hv1 hv2
          go_wp2_with fail
          refine (total_any _ _ _ hv5 hlr hsy).mono ?_
          rw [HT.out]
          rintro e w' ⟨rfl, rfl⟩
          go_wp2
          go_ret
          exact ⟨ret_bool (by simp), b5⟩

end Go.Proofs.Ytlibfmbbchhjeaa
