/- WaysOf in the model. -/
import Derived.Test.YtkhmooemgjichaaCoinT
namespace Go.Proofs.Ytkhmooemgjichaa
open Go.RowKit

/-- What WaysOf answers. -/
def waysV (cs : List Int) (a : Int) : Int := if vCoins cs = true ∧ inR a 0 120 = true then wyV cs a else -1

theorem grown_drewC {w w' : World} {row : Option Nat} (h : w.grownBy w' row) : w.grownBy w'.drew row := ⟨h.os, h.tape, h.output, h.size, h.block⟩

theorem wy_bounds {cs : List Int} (h : vCoins cs = true) (i : Nat) {x : Int} (hx : x ≤ 120) : 0 ≤ wyV (cs.take i) x ∧ wyV (cs.take i) x ≤ 25937424601 := by
  have := (vc_len h).2
  exact ⟨wy_nonneg _ _, wy_le ((vc_pos h).take i) (by rw [List.length_take]; omega) hx⟩

set_option maxRecDepth 100000 in
set_option maxHeartbeats 3200000 in
theorem WaysOf_spec (v : Value) (cs : List Int) (a : Int) (w : World) (hv : IsInts w v cs) (hl : cs.length ≤ 9223372036854775807) :
    Calls Try.prog 9 #[v, .int .i64 a] w fun e w' => e = .returned (.int .i64 (waysV cs a)) ∧ Below w.heap.size w w' := by
  have HVC := Lib.hid (fun r => validCoins_sat v cs r w hv hl)
  have HCC := Lib.hid inRange_sat
  cases h1 : vCoins cs
  · have E : Hid (waysV cs a = -1) := by show _ = _; rw [waysV, if_neg (by rw [h1]; simp)]
    go_enter Try.func9, Try.ntmps9
    go_wp2_with (go_at_call 25; refine (HVC.out _ h1).mono ?_; rintro e w' ⟨rfl, hd⟩)
    go_ret
    exact ⟨ret_int E.out.symm, hd.below⟩
  cases h2 : inR a 0 120
  · have E : Hid (waysV cs a = -1) := by show _ = _; rw [waysV, if_neg (by rw [h2]; simp)]
    go_enter Try.func9, Try.ntmps9
    go_wp2_with (first | (go_at_call 25; refine (HVC.out _ h1).mono ?_; rintro e w' ⟨rfl, hd⟩) | (go_at_call 26; refine (HCC.out _ _ _ _ _ h2).mono ?_; rintro e w' ⟨rfl, rfl⟩))
    go_ret
    exact ⟨ret_int E.out.symm, hd.below⟩
  · have E : Hid (waysV cs a = wyV cs a) := by show _ = _; rw [waysV, if_pos ⟨h1, h2⟩]
    have b2 := inR_true h2
    obtain ⟨n, rfl⟩ : ∃ n : Nat, a = n := ⟨a.toNat, by omega⟩
    have n1 : n ≤ 120 := by omega
    obtain ⟨l1, l5⟩ := vc_len h1
    obtain ⟨b, off, cap, rfl, hbw, hc⟩ := hv.at0 l1
    have HC := Lib.hid hc
    have HAT := Lib.hid (fun (i : Nat) => vc_at h1 (i := i))
    have HWB := Lib.hid (fun (i x : Nat) (hx : x ≤ 120) => wy_bounds h1 i (x := x) (by omega))
    have HSN : Hid (∀ i x : Nat, i < cs.length → cs.getD i 0 ≤ x → wyV (cs.take (i + 1)) (x : Int) = wyV (cs.take i) (x : Int) + wyV (cs.take (i + 1)) ((x : Int) - cs.getD i 0)) := fun i x hi h => by
      rw [take_snoc cs hi]; exact wy_snoc h (vc_at h1 hi).1
    have HSL : Hid (∀ i x : Nat, i < cs.length → (x : Int) < cs.getD i 0 → wyV (cs.take (i + 1)) (x : Int) = wyV (cs.take i) (x : Int)) := fun i x hi h => by
      rw [take_snoc cs hi]; exact wy_snoc_less h (vc_at h1 hi).1
    obtain ⟨i0, hi, hz0, hz1, hz2⟩ := info_parts infoInt
    clear b2 hc
    go_enter Try.func9, Try.ntmps9
    go_wp2_with (first | (go_at_call 25; refine (HVC.out _ h1).mono ?_; rintro e w1 ⟨rfl, hd⟩) | (go_at_call 26; refine (HCC.out _ _ _ _ _ h2).mono ?_; rintro e w' ⟨rfl, rfl⟩) | (at_make; refine wpList_make_full _ rfl _ _ 23 rfl w1.heap.size 3 i0 (.int .i64 0) 1 Try.underlying23 hi hz0 hz1 _ _ _ _ (n + 1) rfl rfl rfl rfl ?b2 ?b3 (Nat.le_refl _) ?_))
    case b2 => rw [hz2]; omega
    case b3 => unfold maxLen; omega
    intro w0 hown0 hgrow0
    have hb1 : Below w.heap.size w w1 := hd.below
    have hb0 : Below w.heap.size w w0 := hb1.trans (below_grown hgrow0 hb1.size (fun k h => by cases h))
    have hw0 : Own w0 w1.heap.size (sl w1.heap.size (n + 1) (n + 1)) (List.replicate (n + 1) 0) := own_made hown0
    have hs1 := hb1.size
    generalize w1.heap.size = g at *
    have hs := hw0.set (by simp) 0 1
    have hc0 := hw0.cell (by simp) 0 (by omega)
    have hf0 := hw0.frozen (by simp) 0
    have n0 : (0 : Int) < (n : Int) + 1 := by omega
    rw [first_set n 1 0, show (fun x : Int => if x = 0 then (1 : Int) else 0) = wyV (cs.take 0) by rw [List.take_zero]; rfl] at hs
    have hb2 : Below w.heap.size w (w0.setCell ⟨g, 0, none⟩ (.int .i64 1)) := hb0.setCell hs1 _
    have S0 := Lib.hid hs.1
    clear hown0 hgrow0 hb0 hw0 hs
    go_wp2
    go_loopw [6, 7] (fun iv _ wr => ∃ i : Nat, i ≤ cs.length ∧ iv = .int .i64 i ∧ Own wr g (sl g (n + 1) (n + 1)) (tabL (wyV (cs.take i)) n) ∧ Below w.heap.size w wr) (fun iv _ _ => cs.length - (intOf iv).toNat)
    case atStart => exact ⟨0, Nat.zero_le _, rfl, S0.out, hb2⟩
    case round =>
      clear S0 hb2 hc0 hf0
      obtain ⟨i, hi, rfl, hown, hbl⟩ := hrel
      rename World => wr
      by_cases hlt : i < cs.length
      · have i1 : (i : Int) < (cs.length : Int) := by omega
        have ci : wr.cell? ⟨b, off + i, none⟩ = some (.int .i64 (cs.getD i 0)) := (hbl.cell (by exact hbw)).trans (HC.out i hlt)
        have hat := HAT.out i hlt
        obtain ⟨c, hcn⟩ : ∃ c : Nat, cs.getD i 0 = c := ⟨(cs.getD i 0).toNat, by omega⟩
        have SN := HSN.out i
        have SL := HSL.out i
        rw [hcn] at ci hat SN SL
        have HSNi : Hid (∀ x : Nat, c ≤ x → wyV (cs.take (i + 1)) (x : Int) = wyV (cs.take i) (x : Int) + wyV (cs.take (i + 1)) ((x - c : Nat) : Int)) := fun x h => by
          have := SN x hlt (by omega)
          rwa [show ((x : Int) - (c : Int)) = ((x - c : Nat) : Int) by omega] at this
        have hst := stL_start (f := wyV (cs.take i)) (g := wyV (cs.take (i + 1))) (x := c) (n := n) (fun j h1 h2 => SL j hlt (by omega))
        rw [← hst] at hown
        have HCI : Hid (∀ wz : World, Below w.heap.size w wz → wz.cell? ⟨b, off + i, none⟩ = some (.int .i64 (c : Int))) := fun wz hz => by
          rw [← hcn]; exact (hz.cell (by exact hbw)).trans (HC.out i hlt)
        clear SN SL hst hcn
        go_wp2
        go_loopw [7] (fun xv wx => ∃ x : Nat, c ≤ x ∧ xv = .int .i64 x ∧ x ≤ n + 30 ∧ Own wx g (sl g (n + 1) (n + 1)) (stL (wyV (cs.take i)) (wyV (cs.take (i + 1))) x n) ∧ Below w.heap.size w wx) (fun xv _ => n + 30 - (intOf xv).toNat)
        case atStart => exact ⟨c, Nat.le_refl _, rfl, by omega, hown, hbl⟩
        case round =>
          clear hown ci hbl
          obtain ⟨x, hcx, rfl, hxn, hown, hbl⟩ := hrel
          rename World => wx
          by_cases hx : x ≤ n
          · have x1 : (x : Int) ≤ (n : Int) := by omega
            have x2 : (x : Int) < (n : Int) + 1 := by omega
            have x3 : (0 : Int) ≤ (x : Int) - (c : Int) := by omega
            have x4 : (x : Int) - (c : Int) < (n : Int) + 1 := by omega
            have x5 : ((x : Int) - (c : Int)).toNat = x - c := by omega
            have ci := HCI.out wx hbl
            have c1 := hown.cell (by simp [stL]) x (by omega)
            have c2 := hown.cell (by simp [stL]) (x - c) (by omega)
            have f1 := hown.frozen (by simp [stL]) x
            rw [stL_at _ _ _ hx, if_neg (by omega)] at c1
            rw [stL_at _ _ _ (by omega), if_pos (by omega)] at c2
            have b1 := HWB.out i x (by omega)
            have b2 := HWB.out (i + 1) (x - c) (by omega)
            have b3 := HWB.out (i + 1) x (by omega)
            have hs := (hown.set (by simp [stL]) x (wyV (cs.take (i + 1)) x)).1
            rw [stL_set _ _ hx] at hs
            have he := HSNi.out x hcx
            have bw : Below w.heap.size w (wx.setCell ⟨g, x, none⟩ (.int .i64 (wyV (cs.take (i + 1)) x))).drew := (hbl.setCell hs1 _).drew
            have o2 := hs.kept (grown_drewC (World.grownBy.refl _ none)) (.inr (by simp [Value.ownBlock]))
            have O2 := Lib.hid o2
            clear o2 hs hown
            generalize wyV (cs.take (i + 1)) (x : Int) = z at *
            generalize wyV (cs.take (i + 1)) ((x - c : Nat) : Int) = y at *
            generalize wyV (cs.take i) (x : Int) = u at *
            subst he
            go_wp2
            go_region
            go_wp2
            go_roundw
            case rel => exact ⟨x + 1, by omega, by go_num, by omega, O2.out, bw⟩
            case measure => simp [intOf]; omega
          · rw [stL_end _ _ (by omega)] at hown
            go_wp2
            go_roundw
            case rel => exact ⟨i + 1, by omega, by go_num, hown, hbl⟩
            case measure => simp [intOf]; omega
      · have hie : i = cs.length := by omega
        subst hie
        rw [List.take_length] at hown
        have c1 := hown.cell (by simp [tabL]) n (by omega)
        rw [tabL_at _ (Nat.le_refl _)] at c1
        have n2 : (n : Int) < (n : Int) + 1 := by omega
        go_wp2
        go_ret
        exact ⟨ret_int E.out.symm, hbl⟩

end Go.Proofs.Ytkhmooemgjichaa
