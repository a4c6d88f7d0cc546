/- Steps marked, marks told, steps compared. -/
import Derived.Test.YtmeejaafbbabaaaEqS
import Derived.Test.YtmeejaafbbabaaaWorld
import Derived.Test.YtmeejaafbbabaaaDrawS
namespace Go.Proofs.Ytmeejaafbbabaaa
open Go.RowKit

/-- The marks of n steps from q on. -/
def marksS (q : Int) : Nat → List (Int × Int)
  | 0 => []
  | n + 1 => marksS q n ++ [(q + 2 * n, q + 2 * n + 1)]
theorem marksS_length (q : Int) (n : Nat) : (marksS q n).length = n := by
  induction n with
  | zero => rfl
  | succ n ih => simp [marksS, ih]
theorem marksS_at (q : Int) (n j : Nat) (h : j < n) : frm (marksS q n) j = q + 2 * j ∧ rat (marksS q n) j = q + 2 * j + 1 := by
  induction n with
  | zero => omega
  | succ n ih =>
    have hl := marksS_length q n
    by_cases hj : j < n
    · have := ih hj
      simpa [marksS, frm, rat, List.getD, List.getElem?_append_left (show j < (marksS q n).length by omega)] using this
    · have e : j = n := by omega
      subst e
      simp [marksS, frm, rat, List.getD, hl]

theorem marksS_set (st : List (Int × Int)) (q : Int) (k : Nat) (h : k < st.length) : (marksS q k ++ st.drop k).set k (q + 2 * k, q + 2 * k + 1) = marksS q (k + 1) ++ st.drop (k + 1) := by
  have hl := marksS_length q k
  rw [List.set_append_right _ _ (by omega), hl, Nat.sub_self, List.drop_eq_getElem_cons h, marksS, List.set_cons_zero]
  simp

set_option maxHeartbeats 800000 in
theorem markStepS_any (v : Value) (st : List (Int × Int)) (q : Int) (B : Nat) (w : World) (hv : OwnS w B v st) (hl : st.length ≤ 1048576) (hq0 : 0 ≤ q) (hq : q ≤ 4294967296) :
    Calls Try.prog 47 #[v, .int .i64 q] w fun e w' => e = .returned (.int .i64 (q + 2 * st.length)) ∧ OwnS w' B v (marksS q st.length) ∧ w.grownBy w' v.ownBlock := by
  have hv0 := hv
  rcases hv.2 with ⟨rfl, hn⟩ | ⟨g, cap, cur, rfl, hgB, _⟩
  · have hx : st = [] := List.length_eq_zero_iff.1 hn
    subst hx
    go_enter Try.func47, Try.ntmps47
    go_wp2
    refine wp_loop_rounds 1 ?_
    rw [rounds_succ]
    go_wp2
    go_ret
    exact ⟨ret_int (by simp), hv0, World.grownBy.refl _ _⟩
  · clear hv
    go_enter Try.func47, Try.ntmps47
    go_wp2
    go_loopw [1, 5] (fun q' i wr => ∃ k : Nat, k ≤ st.length ∧ i = .int .i64 k ∧ q' = .int .i64 (q + 2 * k) ∧ OwnS wr B (slS g st.length cap) (marksS q k ++ st.drop k) ∧ w.grownBy wr (some g))
      (fun _ i _ => st.length - (intOf i).toNat)
    case atStart => exact ⟨0, Nat.zero_le _, rfl, by simp, by simpa [marksS] using hv0, World.grownBy.refl _ _⟩
    case round =>
      obtain ⟨k, hk, rfl, rfl, hown, hgr⟩ := hrel
      have hll : (marksS q k ++ st.drop k).length = st.length := by simp [marksS_length]; omega
      by_cases hlt : k < st.length
      · obtain ⟨⟨c0, c1⟩, f0, f1⟩ := hown.at hll k hlt
        have h1 := hown.setFrom hll k hlt (q + 2 * k)
        have hl1 : ((marksS q k ++ st.drop k).set k (q + 2 * (k : Int), rat (marksS q k ++ st.drop k) k)).length = st.length := by rw [List.length_set]; exact hll
        obtain ⟨⟨d0, d1⟩, e0, e1⟩ := h1.1.at hl1 k hlt
        have hst := hown.set hll k hlt (q + 2 * k) (q + 2 * k + 1)
        rw [marksS_set st q k hlt] at hst
        have H1 := Lib.hid hst.1
        have H2 := Lib.hid (hgr.trans hst.2)
        have k1 : (k : Int) < (st.length : Int) := by omega
        clear hst hv0 h1 hl1 hll hown d0 e0
        go_wp2
        go_roundw
        case rel => exact ⟨k + 1, by omega, by go_num, by go_num, H1.out, H2.out⟩
        case measure => simp [intOf]; omega
      · have hk2 : k = st.length := by omega
        subst hk2
        have H1 : OwnS wr B (slS g st.length cap) (marksS q st.length) := by simpa using hown
        clear hown
        go_wp2
        go_ret
        exact ⟨rfl, H1, hgr⟩

set_option maxHeartbeats 800000 in
theorem heldStepS_any (v : Value) (n : Nat) (q : Int) (w : World) (hv : IsSteps w v (marksS q n)) (hl : n ≤ 1048576) (hq0 : 0 ≤ q) (hq : q ≤ 4294967296) :
    Calls Try.prog 48 #[v, .int .i64 q] w fun e w' => e = .returned (.int .i64 (q + 2 * n)) ∧ w = w' := by
  obtain ⟨a, cap, rfl, hc⟩ := hv
  rw [marksS_length] at hc ⊢
  go_enter Try.func48, Try.ntmps48
  go_wp2
  go_loop [1, 5] (fun q' i => ∃ k : Nat, k ≤ n ∧ i = .int .i64 k ∧ q' = .int .i64 (q + 2 * k)) (fun _ i => n - (intOf i).toNat)
  case atStart => exact ⟨0, Nat.zero_le _, rfl, by simp⟩
  case round =>
    obtain ⟨k, hk, rfl, rfl⟩ := hrel
    by_cases hlt : k < n
    · obtain ⟨b, off, rfl, c0, c1⟩ := hc k hlt
      rw [(marksS_at q n k hlt).1] at c0
      rw [(marksS_at q n k hlt).2] at c1
      have k1 : (k : Int) < (n : Int) := by omega
      have hne : (q + 2 * (k : Int) != q + 2 * (k : Int)) = false := by simp
      have hne2 : (q + 2 * (k : Int) + 1 != q + 2 * (k : Int) + 1) = false := by simp
      clear hc
      go_wp2
      go_round
      case rel => exact ⟨k + 1, by omega, by go_num, by go_num⟩
      case measure => simp [intOf]; omega
    · have hk2 : k = n := by omega
      subst hk2
      clear hc
      go_wp2
      go_ret
      exact ⟨rfl, rfl⟩

set_option maxHeartbeats 800000 in
theorem equalSteps_same (va vb : Value) (st : List (Int × Int)) (w : World) (ha : IsSteps w va st) (hb : IsSteps w vb st) (hl : st.length ≤ 9223372036854775807) :
    Calls Try.prog 43 #[va, vb] w fun e w' => e = .returned (.bool true) ∧ Drawn w w' := by
  obtain ⟨a, cap, rfl, hc⟩ := ha
  obtain ⟨a2, cap2, rfl, hc2⟩ := hb
  go_enter Try.func43, Try.ntmps43
  go_wp2
  go_loopw [5] (fun i wr => ∃ k : Nat, k ≤ st.length ∧ i = .int .i64 k ∧ Drawn w wr) (fun i _ => st.length - (intOf i).toNat)
  case atStart => exact ⟨0, Nat.zero_le _, rfl, Drawn.refl _⟩
  case round =>
    obtain ⟨k, hk, rfl, hdr⟩ := hrel
    by_cases hlt : k < st.length
    · obtain ⟨b, off, rfl, c0, c1⟩ := hc k hlt
      obtain ⟨b2, off2, rfl, e0, e1⟩ := hc2 k hlt
      have d0 : wr.cell? ⟨b, off + k * 2, none⟩ = some (.int .i64 (frm st k)) := (hdr.cell _).trans c0
      have d1 : wr.cell? ⟨b, off + k * 2 + 1, none⟩ = some (.int .i64 (rat st k)) := (hdr.cell _).trans c1
      have g0 : wr.cell? ⟨b2, off2 + k * 2, none⟩ = some (.int .i64 (frm st k)) := (hdr.cell _).trans e0
      have g1 : wr.cell? ⟨b2, off2 + k * 2 + 1, none⟩ = some (.int .i64 (rat st k)) := (hdr.cell _).trans e1
      have k1 : (k : Int) < (st.length : Int) := by omega
      clear hc hc2 c0 c1 e0 e1
      go_wp2
      go_quiet (fail)
      go_wp2
      go_roundw
      case rel => exact ⟨k + 1, by omega, by go_num, hdr.more _⟩
      case measure => simp [intOf]; omega
    · clear hc hc2
      go_wp2
      go_ret
      exact ⟨rfl, hdr⟩

end Go.Proofs.Ytmeejaafbbabaaa
