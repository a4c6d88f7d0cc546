/- The law FnRateAt: the walk. -/
import Derived.Test.YtmeejaafbbabaaaDrawsS
import Derived.Test.YtmeejaafbbabaaaTaxL
import Derived.Test.YtmeejaafbbabaaaAnsS
namespace Go.Proofs.Ytmeejaafbbabaaa
open Go.RowKit

/-- One of the first k steps has the Rate r and begins at most at x. -/
def metI (st : List (Int × Int)) (r x : Int) : Nat → Bool
  | 0 => false
  | k + 1 => metI st r x k || (rat st k == r && decide (frm st k ≤ x))

theorem metI_true {st : List (Int × Int)} {r x : Int} {j : Nat} (h1 : rat st j = r) (h2 : frm st j ≤ x) : ∀ n, j < n → metI st r x n = true := by
  intro n
  induction n with
  | zero => omega
  | succ n ih =>
    intro h
    unfold metI
    by_cases e : j = n
    · subst e; simp [h1, h2]
    · rw [ih (by omega)]; rfl

theorem enter_RateAt (args : Array Value) (w : World) : (callFunc 25 args).run Try.prog w = .ok (.enter 25 args) w := by rfl

set_option maxRecDepth 100000 in
set_option maxHeartbeats 3200000 in
theorem FnRateAt_walk (a : Option Addr) (n cap : Nat) (w : World) (h : IsBytes w a n) (hc : n ≤ cap) :
    Calls Try.prog 7 #[.slice a n cap] w fun e w' => e = .returned (.bool true) ∧ Below w.heap.size w w' := by
  by_cases hbig : (1048576 : Int) < (n : Int)
  · go_enter Try.func7, Try.ntmps7
    go_wp2
    go_ret
    exact ⟨rfl, Below.refl _ _⟩
  · go_enter Try.func7, Try.ntmps7
    go_wp2_with fail
    refine (DrawRateAt_any a n cap _ h hc).mono ?_
    rintro e w1 ⟨v, st, x, rfl, o1, l6, hx, b1⟩
    have s1 := o1.steps
    clear o1 h
    cases hcan : canT st x
    · have E : Hid (rateA st x = -1) := by show rateA st x = -1; rw [rateA, hcan]; rfl
      clear hcan
      go_wp2_with fail
      refine (RateAt_impl _ st x _ s1 (by omega)).mono ?_
      rintro e w2 ⟨rfl, hb2⟩
      rw [E.out]
      have b2 := b1.trans (hb2.mono b1.size)
      have s2 := s1.below hb2
      clear hb2 s1
      go_wp2_with fail
      refine (RateAt_spec _ st x _ s2 (by omega)).mono ?_
      rintro e w3 ⟨rfl, hb3⟩
      rw [E.out]
      have b3 := b2.trans (hb3.below.mono b2.size)
      have s3 := s2.below hb3.below
      clear hb3 s2
      go_wp2_with fail
      refine (RateAt_spec _ st x _ s3 (by omega)).mono ?_
      rintro e w4 ⟨rfl, hb4⟩
      rw [E.out]
      have b4 := b3.trans (hb4.below.mono b3.size)
      have s4 := s3.below hb4.below
      clear hb4 s3
      go_wp2
      go_ret
      exact ⟨rfl, b4⟩
    · obtain ⟨hs, hx0⟩ := canT_true hcan
      have E : Hid (rateA st x = rateT st x) := by show rateA st x = rateT st x; rw [rateA, hcan]; rfl
      have hv := (canT_iff.1 hcan).1
      have hr := hs.rate_bounds x
      have E0 : Hid (rateA st 0 = rat st 0) := by
        show rateA st 0 = _
        rw [rateA, if_pos (canT_iff.2 ⟨hv, by omega, by omega⟩), rate_zero hs]
      have HM := Lib.hid (metI_true (r := rateT st x) rfl (hs.atX_at hx0.1) st.length (hs.atX_lt x))
      have hl1 := hs.len1
      clear hcan hv
      go_wp2_with fail
      refine (RateAt_impl _ st x _ s1 (by omega)).mono ?_
      rintro e w2 ⟨rfl, hb2⟩
      rw [E.out]
      have b2 := b1.trans (hb2.mono b1.size)
      have s2 := s1.below hb2
      clear hb2 s1
      go_wp2_with fail
      refine (RateAt_spec _ st x _ s2 (by omega)).mono ?_
      rintro e w3 ⟨rfl, hb3⟩
      rw [E.out]
      have b3 := b2.trans (hb3.below.mono b2.size)
      have s3 := s2.below hb3.below
      clear hb3 s2
      generalize rateT st x = r at *
      have hneg : ¬ r < 0 := by omega
      go_wp2
      obtain ⟨av, cv, rfl, hcs⟩ := id s3
      go_loop [6, 7] (fun t s => ∃ k : Nat, k ≤ st.length ∧ s = .int .i64 k ∧ t = .bool (metI st r x k)) (fun _ s => st.length - (intOf s).toNat)
      case atStart => exact ⟨0, Nat.zero_le _, rfl, rfl⟩
      case round =>
        obtain ⟨k, hk, rfl, rfl⟩ := hrel
        by_cases hlt : k < st.length
        · obtain ⟨b, off, rfl, c0, c1⟩ := hcs k hlt
          have k1 : (k : Int) < (st.length : Int) := by omega
          have HS : Hid (metI st r x (k + 1) = (metI st r x k || (rat st k == r && decide (frm st k ≤ x)))) := rfl
          clear hcs
          cases hm : metI st r x k
          · rw [hm] at HS
            clear hm
            cases he : (rat st k == r)
            · rw [he] at HS
              go_wp2
              go_round
              case rel => exact ⟨k + 1, by omega, by go_num, by rw [HS.out]; rfl⟩
              case measure => simp [intOf]; omega
            · rw [he] at HS
              by_cases hf : frm st k ≤ x
              · rw [decide_eq_true hf] at HS
                go_wp2
                go_round
                case rel => exact ⟨k + 1, by omega, by go_num, by rw [HS.out]; first | rfl | simp⟩
                case measure => simp [intOf]; omega
              · rw [decide_eq_false hf] at HS
                go_wp2
                go_round
                case rel => exact ⟨k + 1, by omega, by go_num, by rw [HS.out]; first | rfl | simp⟩
                case measure => simp [intOf]; omega
          · rw [hm] at HS
            clear hm
            go_wp2
            go_round
            case rel => exact ⟨k + 1, by omega, by go_num, by rw [HS.out]; rfl⟩
            case measure => simp [intOf]; omega
        · have hkl : k = st.length := by omega
          subst hkl
          rw [HM.out]
          obtain ⟨b, off, rfl, c0, c1⟩ := hcs 0 (by omega)
          have hbb : b < w3.heap.size := World.block_lt_of_cell? w3 _ c0
          have hq : ∀ w', Below w3.heap.size w3 w' → w'.cell? ⟨b, off + 1, none⟩ = some (.int .i64 (rat st 0)) := fun w' hw' => (hw'.cell (by exact hbb)).trans (by simpa using c1)
          have HQ := Lib.hid hq
          have HSS := Lib.hid s3
          have i2 : 0 < st.length := by omega
          have i3 : st ≠ [] := by intro hg; rw [hg] at i2; exact absurd i2 (by decide)
          clear hq hcs c0 c1 s3
          go_wp2
          refine wp_region_quiet_below (by kernel_rfl) (by kernel_rfl) ?_
          go_simp
          repeat (first
            | (refine wpQuiet_val (.int .i64 (rat st 0)) (by kernel_rfl) (quietAt_load_int _ rfl ⟨b, off + 1, none⟩ _ rfl HQ.out) ?_; go_simp)
            | (refine wpQuiet_val (.int .i64 (rat st 0)) (by kernel_rfl) (quietAt_callf _ enter_RateAt _ _ rfl #[.slice (some ⟨b, off, none⟩) st.length cv, .int .i64 0] (by simp [go_sem]) (fun w' hw' => (RateAt_impl _ st 0 _ (HSS.out.below hw') (by omega)).mono (fun e w'' h => ⟨h.1.trans (ret_int E0.out), hw'.trans (h.2.mono hw'.size)⟩))) ?_; go_simp)
            | go_big_quiet_skip | (go_big_quiet_want; go_big_quiet_op; first | go_big_quiet_on | (refine ⟨_, fun _ _ => rfl, ?_⟩; go_big_quiet_on)))
          refine wpQuiet_nil ?_
          intro w' hw'
          go_wp2
          go_ret
          exact ⟨rfl, b3.trans (hw'.mono b3.size)⟩

end Go.Proofs.Ytmeejaafbbabaaa
