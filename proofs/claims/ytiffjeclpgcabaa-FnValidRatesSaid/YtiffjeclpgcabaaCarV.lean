/- CarryOf, in the model. -/
import Derived.Test.YtiffjeclpgcabaaOffV
import Derived.Test.YtiffjeclpgcabaaPush
import Derived.Test.YtiffjeclpgcabaaReadH
namespace Go.Proofs.Ytiffjeclpgcabaa
open Go.RowKit

/-- What is left behind the months of a list. -/
def leftC (g m : Int) (xs : List Int) : Int := xs.foldl (fun l s => min (l + g - s) m) 0
/-- What is left behind each month. -/
def carL (g m : Int) (xs : List Int) : List Int := (List.range xs.length).map fun i => leftC g m (xs.take (i + 1))
/-- Are the arguments those of CarryOf? -/
def cCar (g m : Int) (xs : List Int) : Bool := inR g 0 100000 && inR m 0 100000 && decide ((xs.length : Int) ≤ 12) && allQ xs 0 100000
/-- What CarryOf answers. -/
def carV (g m : Int) (xs : List Int) : List Int := if cCar g m xs = true then carL g m xs else []

theorem car_no {g m : Int} {xs : List Int} (h : cCar g m xs = false) : carV g m xs = [] := by unfold carV; rw [h]; rfl

theorem carL_len (g m : Int) (xs : List Int) : (carL g m xs).length = xs.length := by simp [carL]

theorem leftC_succ (g m : Int) (xs : List Int) {k : Nat} (h : k < xs.length) : leftC g m (xs.take (k + 1)) = min (leftC g m (xs.take k) + g - xs.getD k 0) m := by
  unfold leftC
  rw [List.take_succ_eq_append_getElem h, List.foldl_append, getD_is h]
  rfl

theorem carL_take (g m : Int) (xs : List Int) {k : Nat} (h : k < xs.length) : carL g m (xs.take k) ++ [leftC g m (xs.take (k + 1))] = carL g m (xs.take (k + 1)) := by
  have h1 : (xs.take (k + 1)).length = k + 1 := by rw [List.length_take]; omega
  have h2 : (xs.take k).length = k := by rw [List.length_take]; omega
  unfold carL
  rw [h1, h2, List.range_succ, List.map_append]
  congr 1
  · refine List.map_congr_left (fun i hi => ?_)
    have := List.mem_range.1 hi
    rw [List.take_take, List.take_take, Nat.min_eq_left (by omega), Nat.min_eq_left (by omega)]
  · simp [List.take_take]

theorem inRange_atC (x lo hi : Int) (r : Bool) (w : World) (h : inR x lo hi = r) : Calls Try.prog 63 #[.int .i64 x, .int .i64 lo, .int .i64 hi] w fun e w' => e = .returned (.bool r) ∧ w = w' := by
  subst h; exact inRange_spec _ _ _ _

theorem own_nilC (w : World) (B : Nat) : Own w B (.slice none 0 0) [] := ⟨rfl, .inl ⟨rfl, rfl⟩⟩

set_option maxHeartbeats 3200000 in
theorem CarryOf_spec (g m : Int) (v : Value) (xs : List Int) (w : World) (hv : IsInts w v xs) (hl : xs.length ≤ 9223372036854775807) :
    Calls Try.prog 46 #[.int .i64 g, .int .i64 m, v] w fun e w' => ∃ v', e = .returned v' ∧ Own w' w.heap.size v' (carV g m xs) ∧ Below w.heap.size w w' := by
  have HCC := Lib.hid inRange_atC
  have HNO : Hid (cCar g m xs = false → carV g m xs = []) := car_no
  have hb0 : Below w.heap.size w (w.alloc (.cells #[] 3)) := (Below.refl _ _).alloc (Nat.le_refl _) _
  have ho0 := own_empty w w.heap.size (Nat.le_refl _)
  obtain ⟨a, cap, rfl, hc⟩ := hv
  cases h1 : inR g 0 100000
  · have E := Lib.hid (HNO.out (by unfold cCar; rw [h1]; rfl))
    go_enter Try.func46, Try.ntmps46
    go_wp2_with (go_at_call 63; refine (HCC.out _ _ _ _ _ h1).mono ?_; rintro e w' ⟨rfl, rfl⟩)
    go_ret
    exact ⟨_, rfl, by rw [E.out]; exact own_nilC _ _, Below.refl _ _⟩
  cases h2 : inR m 0 100000
  · have E := Lib.hid (HNO.out (by unfold cCar; rw [h1, h2]; rfl))
    go_enter Try.func46, Try.ntmps46
    go_wp2_with (go_at_call 63; (first | (with_reducible refine (HCC.out g _ _ _ _ h1).mono ?_) | (with_reducible refine (HCC.out m _ _ _ _ h2).mono ?_)); rintro e w' ⟨rfl, rfl⟩)
    go_ret
    exact ⟨_, rfl, by rw [E.out]; exact own_nilC _ _, Below.refl _ _⟩
  by_cases h3 : (xs.length : Int) ≤ 12
  · have hg := inR_true h1
    have hm := inR_true h2
    have HE : Hid (cCar g m xs = allQ xs 0 100000) := by show _ = _; unfold cCar; rw [h1, h2, decide_eq_true h3]; rfl
    go_enter Try.func46, Try.ntmps46
    go_wp2_with (go_at_call 63; (first | (with_reducible refine (HCC.out g _ _ _ _ h1).mono ?_) | (with_reducible refine (HCC.out m _ _ _ _ h2).mono ?_)); rintro e w' ⟨rfl, rfl⟩)
    go_loopg [7, 8, 9] xs.length (fun n u l i wr => ∃ (k : Nat) (L : Int), k + n = xs.length ∧ i = .int .i64 k ∧ l = .int .i64 L ∧ L = leftC g m (xs.take k) ∧ (-(100000 * (k : Int)) ≤ L ∧ L ≤ 100000) ∧ allQ (xs.take k) 0 100000 = true ∧ Own wr w.heap.size u (carL g m (xs.take k)) ∧ Below w.heap.size w wr)
    case atStart => exact ⟨0, 0, by omega, rfl, rfl, rfl, by omega, rfl, ho0, hb0⟩
    case round =>
      obtain ⟨k, L, hkn, rfl, rfl, hL, hLb, hall, own, hbl⟩ := hrel
      have HL := Lib.hid hL
      have HA := Lib.hid hall
      have HK := Lib.hid hkn
      have hsz := hbl.size
      clear hL hall ho0 hb0 hkn
      by_cases hlt : k < xs.length
      · obtain ⟨b, off, rfl, c0⟩ := hc k hlt
        have hcell := (hbl.cell (by exact World.block_lt_of_cell? w _ c0)).trans c0
        have H1 := Lib.hid (leftC_succ g m xs hlt)
        have H2 := Lib.hid (carL_take g m xs hlt)
        have H3 := Lib.hid (allQ_take_succ xs 0 100000 k hlt)
        have H4 : Hid (inR xs[k] 0 100000 = false → allQ xs 0 100000 = false) := allQ_false_of xs 0 100000 k hlt
        rw [getD_is hlt] at H1 hcell
        have hlk : (k : Int) < (xs.length : Int) := by omega
        have hlc : (carL g m (xs.take k)).length ≤ 1048576 := by rw [carL_len, List.length_take]; omega
        clear hc c0
        generalize xs[k] = z at *
        cases hr : inR z 0 100000
        · have E := Lib.hid (HNO.out (HE.out.trans (H4.out hr)))
          go_wp2_with (go_at_call 63; refine (HCC.out _ _ _ _ _ hr).mono ?_; rintro e w' ⟨rfl, rfl⟩)
          go_ret
          exact ⟨_, rfl, by rw [E.out]; exact own_nilC _ _, hbl⟩
        · have hz := inR_true hr
          by_cases hmin : L + g - z ≤ m
          all_goals
            go_wp2_with (first | (go_at_call 63; refine (HCC.out _ _ _ _ _ hr).mono ?_; rintro e w' ⟨rfl, rfl⟩) | (at_builtin; refine wpList_push own hlc hsz (h := ?_)))
            intro v6 w6 o6 g6 m6
            have b6 : Below w.heap.size w w6 := hbl.trans (below_grown g6 hsz (fun q hq => (own.lt q hq).1))
            clear own hbl g6 m6
            go_wp2
            cases gk with
            | zero =>
              have := HK.out
              omega
            | succ n =>
              go_roundg n
              case measure => omega
              case rel => exact ⟨k + 1, _, by have := HK.out; omega, by go_num, rfl, by rw [H1.out, ← HL.out]; omega, by omega, by rw [H3.out, HA.out, hr]; rfl, by rw [← H2.out]; rw [H1.out, ← HL.out]; first | (rw [Int.min_eq_left hmin]; exact o6) | (rw [Int.min_eq_right (by omega)]; exact o6), b6⟩
      · have ek : xs.take k = xs := List.take_of_length_le (by omega)
        have E : Hid (carV g m xs = carL g m (xs.take k)) := by
          show _ = _
          rw [carV, if_pos (by rw [HE.out]; have := HA.out; rwa [ek] at this), ek]
        go_wp2
        go_ret
        exact ⟨_, rfl, by rw [E.out]; exact own, hbl⟩
  · have E := Lib.hid (HNO.out (by unfold cCar; rw [h1, h2, decide_eq_false h3]; rfl))
    go_enter Try.func46, Try.ntmps46
    go_wp2_with (go_at_call 63; (first | (with_reducible refine (HCC.out g _ _ _ _ h1).mono ?_) | (with_reducible refine (HCC.out m _ _ _ _ h2).mono ?_)); rintro e w' ⟨rfl, rfl⟩)
    go_ret
    exact ⟨_, rfl, by rw [E.out]; exact own_nilC _ _, Below.refl _ _⟩

end Go.Proofs.Ytiffjeclpgcabaa
