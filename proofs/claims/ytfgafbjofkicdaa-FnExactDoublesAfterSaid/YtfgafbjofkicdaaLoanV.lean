/- Equal parts with the rest in the last one, in the model: the contract. -/
import Derived.Test.YtfgafbjofkicdaaLoanU
namespace Go.Proofs.Ytfgafbjofkicdaa
open Go.RowKit

theorem grown_drewV {w w' : World} {row : Option Nat} (h : w.grownBy w' row) : w.grownBy w'.drew row := ⟨h.os, h.tape, h.output, h.size, h.block⟩

/-- Equal parts, the rest in the last one. -/
def lastL (a : Int) (n : Nat) : List Int := (List.replicate n (a / n)).set (n - 1) (a / n + a % n)
/-- What LastPaid answers. -/
def lastV (a n : Int) : List Int := if inR a 0 1000 = true ∧ inR n 1 8 = true then lastL a n.toNat else []

theorem lastL_len (a : Int) (n : Nat) : (lastL a n).length = n := by simp [lastL]
theorem lastL_at (a : Int) (n i : Nat) (h : i < n) : (lastL a n).getD i 0 = lastAt a n i := by
  have hl : i < (List.replicate n (a / (n : Int))).length := by simp; exact h
  unfold lastL lastAt
  by_cases e : i + 1 = n
  · have : n - 1 = i := by omega
    rw [if_pos e, this]
    simp [List.getD, h]
  · have : n - 1 ≠ i := by omega
    rw [if_neg e]
    simp [List.getD, this, h]

set_option maxRecDepth 100000 in
set_option maxHeartbeats 3200000 in
theorem LastPaid_spec (a n : Int) (w : World) :
    Calls Try.prog 38 #[.int .i64 a, .int .i64 n] w fun e w' => ∃ v, e = .returned v ∧ Own w' w.heap.size v (lastV a n) ∧ Below w.heap.size w w' := by
  have HCC := Lib.hid inRange_at
  cases h1 : inR a 0 1000
  · have E : Hid (lastV a n = []) := by show _ = _; rw [lastV, if_neg (by rw [h1]; simp)]
    go_enter Try.func38, Try.ntmps38
    go_wp2_with (go_at_call 59; (with_reducible refine (HCC.out a _ _ _ _ h1).mono ?_); rintro e w' ⟨rfl, rfl⟩)
    go_ret
    exact ⟨_, rfl, by rw [E.out]; exact ⟨rfl, .inl ⟨rfl, rfl⟩⟩, Below.refl _ _⟩
  cases h2 : inR n 1 8
  · have E : Hid (lastV a n = []) := by show _ = _; rw [lastV, if_neg (by rw [h2]; simp)]
    go_enter Try.func38, Try.ntmps38
    go_wp2_with (go_at_call 59; (first | (with_reducible refine (HCC.out a _ _ _ _ h1).mono ?_) | (with_reducible refine (HCC.out n _ _ _ _ h2).mono ?_)); rintro e w' ⟨rfl, rfl⟩)
    go_ret
    exact ⟨_, rfl, by rw [E.out]; exact ⟨rfl, .inl ⟨rfl, rfl⟩⟩, Below.refl _ _⟩
  · have E : Hid (lastV a n = lastL a n.toNat) := by show _ = _; rw [lastV, if_pos ⟨h1, h2⟩]
    have b1 := inR_true h1
    have b2 := inR_true h2
    obtain ⟨k, rfl⟩ : ∃ k : Nat, n = k := ⟨n.toNat, by omega⟩
    have hk0 : (k : Int) ≠ 0 := by omega
    have hd0 := Int.ediv_nonneg b1.1 (show 0 ≤ (k : Int) by omega)
    have hd1 := Int.ediv_le_self (k : Int) b1.1
    have hm0 := Int.emod_nonneg a hk0
    have hm1 := Int.emod_lt_of_pos a (show 0 < (k : Int) by omega)
    have HLL : Hid (lastL a k = (List.replicate k (a / k)).set (k - 1) (a / k + a % k)) := rfl
    have oe := own_empty w w.heap.size (Nat.le_refl _)
    have hbe : Below w.heap.size w (w.alloc (.cells #[] 3)) := (Below.refl _ _).alloc (Nat.le_refl _) _
    go_enter Try.func38, Try.ntmps38
    go_wp2_with (go_at_call 59; (first | (with_reducible refine (HCC.out a _ _ _ _ h1).mono ?_) | (with_reducible refine (HCC.out (k : Int) _ _ _ _ h2).mono ?_)); rintro e w' ⟨rfl, rfl⟩)
    go_loopw [5, 6] (fun ov tv wr => ∃ t : Nat, t ≤ k ∧ tv = .int .i64 t ∧ Own wr w.heap.size ov (List.replicate t (a / k)) ∧ Below w.heap.size w wr) (fun _ tv _ => k - (intOf tv).toNat)
    case atStart => exact ⟨0, Nat.zero_le _, rfl, oe, hbe⟩
    case round =>
      obtain ⟨t, ht, rfl, hown, hbl⟩ := hrel
      rename World => wr
      clear oe hbe
      have hsz := hbl.size
      by_cases hlt : t < k
      · have t1 : (t : Int) < (k : Int) := by omega
        have hrl : (List.replicate t (a / (k : Int))).length ≤ 1048576 := by rw [List.length_replicate]; omega
        have HRS : Hid (List.replicate (t + 1) (a / (k : Int)) = List.replicate t (a / (k : Int)) ++ [a / (k : Int)]) := List.replicate_succ'
        have HOW := Lib.hid hown
        clear hown
        go_wp2_with (at_builtin; refine wpList_push HOW.out hrl hsz (h := ?_))
        intro v' w' o g m
        have o2 : Own w' w.heap.size v' (List.replicate (t + 1) (a / (k : Int))) := by rw [HRS.out]; exact o
        have bb : Below w.heap.size w w' := hbl.trans (HOW.out.pushed_below g hsz)
        clear o g m
        go_wp2
        go_roundw
        case rel => exact ⟨t + 1, by omega, by go_num, o2, bb⟩
        case measure => simp [intOf]; omega
      · have hte : t = k := by omega
        subst hte
        rcases id hown.2 with ⟨_, hz⟩ | ⟨g, cap, cur, rfl, _⟩
        · rw [List.length_replicate] at hz
          omega
        have hgl := hown.lt g rfl
        have hrl : (List.replicate t (a / (t : Int))).length = t := List.length_replicate
        rw [hrl]
        rw [hrl] at hown
        have hown' : Own wr w.heap.size (sl g t cap) (List.replicate t (a / (t : Int))) := hown
        have c1 := hown'.cell hrl (t - 1) (by omega)
        have hgd : (List.replicate t (a / (t : Int))).getD (t - 1) 0 = a / (t : Int) := by simp [List.getD, show t - 1 < t by omega]
        rw [hgd] at c1
        have f1 := hown'.frozen hrl (t - 1)
        have s1 := hown'.set hrl (t - 1) (a / t + a % t)
        have bb : Below w.heap.size w _ := hbl.trans (below_grown s1.2 hsz (fun q hq => by cases hq; exact hgl.1))
        have o2 := s1.1
        rw [← HLL.out] at o2
        have O2 := Lib.hid o2
        have he : lastL a t = lastV a (t : Int) := by rw [E.out, Int.toNat_natCast]
        have HE := Lib.hid he
        have e1 : ((t : Int) - 1) = ((t - 1 : Nat) : Int) := by omega
        have hlt2 : ((t - 1 : Nat) : Int) < (t : Int) := by omega
        clear s1 hown hown' o2 he hgd hrl
        go_wp2
        go_region
        have o3 := O2.out.kept (grown_drewV (World.grownBy.refl _ none)) (.inr (by simp [Value.ownBlock]))
        rw [HE.out] at o3
        have b3 := bb.drew
        have O3 := Lib.hid o3
        clear o3 O2 c1 f1 bb
        go_wp2
        go_ret
        exact ⟨_, rfl, O3.out, b3⟩

end Go.Proofs.Ytfgafbjofkicdaa
