/- The law FnValidParts: the walk. -/
import Derived.Test.YtlibfmbbchhjeaaPartss
import Derived.Test.YtlibfmbbchhjeaaDraws
import Derived.Test.YtlibfmbbchhjeaaParts
import Derived.Test.YtlibfmbbchhjeaaShare
import Derived.Test.YtlibfmbbchhjeaaSpread
namespace Go.Proofs.Ytlibfmbbchhjeaa
open Go.RowKit

theorem vParts_more {xs : List Int} (h : vParts xs = true) (h8 : ¬ xs.length = 8) : vParts (xs ++ [0]) = true := by
  obtain ⟨hl, hall, h1, h2, hsf⟩ := vParts_facts h
  unfold vParts
  have e1 : inR ((xs ++ [0]).length : Int) 1 8 = true := by unfold inR; rw [decide_eq_true_iff]; simp; omega
  have e2 : allR (xs ++ [0]) 0 50 = true := by
    unfold allR
    rw [List.all_eq_true]
    intro x hx
    unfold inR
    rw [decide_eq_true_iff]
    rcases List.mem_append.1 hx with hx | hx
    · exact hall x hx
    · simp at hx; subst hx; omega
  have e3 : tot (xs ++ [0]) = tot xs := by unfold tot; simp
  rw [e1, e2, e3]
  simp
  omega

set_option maxHeartbeats 1600000 in
theorem FnValidParts_walk (a : Option Addr) (n cap : Nat) (w : World) (h : IsBytes w a n) (hc : n ≤ cap) :
    Calls Try.prog 3 #[.slice a n cap] w fun e w' => e = .returned (.bool true) ∧ Below w.heap.size w w' := by
  by_cases hbig : (1048576 : Int) < (n : Int)
  · go_enter Try.func3, Try.ntmps3
    go_wp2
    go_ret
    exact ⟨rfl, Below.refl _ _⟩
  · go_enter Try.func3, Try.ntmps3
    go_wp2_with fail
    refine (DrawValidParts_any a n cap w h hc).mono ?_
    rintro e w1 ⟨v, xs, rfl, o1, wx, b1⟩
    have hl9 := wx.1
    have hl : xs.length ≤ 9223372036854775807 := by omega
    have hv := o1.ints
    cases hvp : vParts xs
    · go_wp2_with (first | (go_at_call 18; refine (ValidParts_impl _ _ _ hv hl).mono ?_; rintro e w' ⟨rfl, rfl⟩) | (go_at_call 19; refine (ValidParts_spec _ _ _ hv hl).mono ?_; rintro e w' ⟨rfl, rfl⟩))
      go_ret
      exact ⟨rfl, b1⟩
    · obtain ⟨hlen, hall, h1, h2, hsf⟩ := vParts_facts hvp
      obtain ⟨av, cv, rfl, _⟩ := o1.ints
      by_cases h8 : xs.length = 8
      · have e8 : ((xs.length : Int) == 8) = true := by simp; omega
        have H8 := Lib.hid h8
        clear h8
        go_wp2_with (first | (go_at_call 18; refine (ValidParts_impl _ _ _ hv hl).mono ?_; rintro e w' ⟨rfl, rfl⟩) | (go_at_call 19; refine (ValidParts_spec _ _ _ hv hl).mono ?_; rintro e w' ⟨rfl, rfl⟩))
        go_ret
        exact ⟨rfl, b1⟩
      · have e8 : ((xs.length : Int) == 8) = false := by simp; omega
        have hmore := vParts_more hvp h8
        have HM := Lib.hid hmore
        have oe := own_empty w1 w.heap.size b1.size
        have hbe : Below w1.heap.size w1 (w1.alloc (.cells #[] 3)) := (Below.refl _ _).alloc (Nat.le_refl _) _
        have hv2 := hv.below hbe
        have be : Below w.heap.size w (w1.alloc (.cells #[] 3)) := b1.trans (hbe.mono b1.size)
        have hsz := be.size
        clear hmore hsf
        go_wp2_with (first | (go_at_call 18; refine (ValidParts_impl _ _ _ hv hl).mono ?_; rintro e w' ⟨rfl, rfl⟩) | (go_at_call 19; refine (ValidParts_spec _ _ _ hv hl).mono ?_; rintro e w' ⟨rfl, rfl⟩) | (at_builtin; refine wpList_spread oe hv2 (by omega) (by simp; omega) hsz (h := ?_)))
        intro v2 w2 o2 g2 m2
        have b2 : Below w.heap.size w w2 := be.trans (oe.pushed_below g2 hsz)
        have hs2 := b2.size
        clear oe hbe hv2 be hsz g2 m2 hv o1
        go_wp2_with (at_builtin; refine wpList_pushG o2 (by omega) hs2 rfl (h := ?_))
        intro v3 w3 o3 g3 m3
        have b3 : Below w.heap.size w w3 := b2.trans (o2.pushed_below g3 hs2)
        have hv3 := o3.ints
        have hl3 : (xs ++ [0]).length ≤ 9223372036854775807 := by simp; omega
        clear o2 g3 m3
        go_wp2_with (go_at_call 18; refine (ValidParts_impl _ _ _ hv3 hl3).mono ?_; rintro e w' ⟨rfl, rfl⟩)
        go_ret
        exact ⟨ret_bool HM.out, b3⟩

end Go.Proofs.Ytlibfmbbchhjeaa
