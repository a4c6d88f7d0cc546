/- SplitEven, in the program and in its model. -/
import Derived.Test.YtbedjebnllimpaaOwn
import Derived.Test.YtbedjebnllimpaaPush
namespace Go.Proofs.Ytbedjebnllimpaa
open Go.RowKit

/-- The share with the index i of t in n equal shares. -/
def evenAt (t n : Int) (i : Nat) : Int := if (i : Int) < t % n then t / n + 1 else t / n

def splitL (t n : Int) : List Int := if inR t 0 100000 = true ∧ inR n 1 8 = true then (List.range n.toNat).map (evenAt t n) else []

theorem splitL_no1 {t n : Int} (h : inR t 0 100000 = false) : splitL t n = [] := by rw [splitL, if_neg (by rw [h]; simp)]
theorem splitL_no2 {t n : Int} (h : inR n 1 8 = false) : splitL t n = [] := by rw [splitL, if_neg (by rw [h]; simp)]
theorem splitL_yes {t : Int} {m : Nat} (h : inR t 0 100000 = true) (h' : inR m 1 8 = true) : splitL t m = (List.range m).map (evenAt t m) := by
  rw [splitL, if_pos ⟨h, h'⟩, Int.toNat_natCast]

theorem list_of_getD (ys : List Int) (m : Nat) (f : Nat → Int) (hl : ys.length = m) (h : ∀ j, j < m → ys.getD j 0 = f j) : ys = (List.range m).map f := by
  apply List.ext_getElem
  · simp [hl]
  · intro i h1 h2
    have := h i (by omega)
    rw [List.getD_eq_getElem?_getD, List.getElem?_eq_getElem h1] at this
    simpa using this

theorem getD_set_eq (ys : List Int) (k : Nat) (u : Int) (h : k < ys.length) : (ys.set k u).getD k 0 = u := by
  rw [List.getD_eq_getElem?_getD, List.getElem?_set_self h]; rfl
theorem getD_set_ne (ys : List Int) (k j : Nat) (u : Int) (h : j ≠ k) : (ys.set k u).getD j 0 = ys.getD j 0 := by
  rw [List.getD_eq_getElem?_getD, List.getD_eq_getElem?_getD, List.getElem?_set_ne (by omega)]

set_option maxHeartbeats 800000 in
theorem SplitEven_impl (t n : Int) (w : World) :
    Calls Try.prog 89 #[.int .i64 t, .int .i64 n] w fun e w' => ∃ v, e = .returned v ∧ Own w' w.heap.size v (splitL t n) ∧ Below w.heap.size w w' := by
  cases h1 : inR t 0 100000
  · go_enter Try.func89, Try.ntmps89
    go_wp2_with (go_at_call 66; refine (inRange_impl _ _ _ _).mono ?_; rintro e w' ⟨rfl, rfl⟩)
    go_ret
    exact ⟨_, rfl, by rw [splitL_no1 h1]; exact own_nil _ _, Below.refl _ _⟩
  · cases h2 : inR n 1 8
    · go_enter Try.func89, Try.ntmps89
      go_wp2_with (go_at_call 66; refine (inRange_impl _ _ _ _).mono ?_; rintro e w' ⟨rfl, rfl⟩)
      go_ret
      exact ⟨_, rfl, by rw [splitL_no2 h2]; exact own_nil _ _, Below.refl _ _⟩
    · have b1 := inR_true h1
      have b2 := inR_true h2
      obtain ⟨m, rfl⟩ : ∃ m : Nat, n = m := ⟨n.toNat, by omega⟩
      have HS := Lib.hid (splitL_yes h1 h2)
      obtain ⟨i0, hi, hz0, hz1, hz2⟩ := info_parts infoInt
      go_enter Try.func89, Try.ntmps89
      go_wp2_with (first | (go_at_call 66; refine (inRange_impl _ _ _ _).mono ?_; rintro e w' ⟨rfl, rfl⟩) | (at_make; refine wpList_make_full _ rfl _ _ 28 rfl w.heap.size 3 i0 (.int .i64 0) 1 Try.underlying28 hi hz0 hz1 _ _ _ _ m rfl rfl rfl rfl ?b2 ?b3 (Nat.le_refl _) ?_))
      case b2 => rw [hz2]; omega
      case b3 => unfold maxLen; omega
      clear hi hz0 hz1 hz2
      intro w0 hown0 hgrow0
      have hb0 : Below w.heap.size w w0 := below_grown hgrow0 (Nat.le_refl _) (fun k h => by cases h)
      have ho0 : Own w0 w.heap.size (sl w.heap.size m m) (List.replicate m 0) := own_made (by simpa using hown0)
      clear hown0 hgrow0
      go_wp2
      go_loopw [19] (fun i wr => ∃ (k : Nat) (ys : List Int), k ≤ m ∧ i = .int .i64 k ∧ ys.length = m ∧ (∀ j, j < k → ys.getD j 0 = evenAt t m j) ∧ Own wr w.heap.size (sl w.heap.size m m) ys ∧ Below w.heap.size w wr)
        (fun i _ => m - (intOf i).toNat)
      case atStart => exact ⟨0, _, Nat.zero_le _, rfl, by simp, fun j hj => by omega, ho0, hb0⟩
      case round =>
        obtain ⟨k, ys, hk, rfl, hl, hys, hown, hbel⟩ := hrel
        by_cases hlt : k < m
        · have hkl : k < ys.length := by omega
          have hcell := hown.cell hl k hlt
          have hfr := hown.frozen hl k
          have st1 := hown.set hl k (t / m)
          have hfr1 := st1.1.frozen (by simpa using hl) k
          have hcell1 := st1.1.cell (by simpa using hl) k hlt
          rw [getD_set_eq _ _ _ hkl] at hcell1
          have hb1 : Below w.heap.size w _ := hbel.trans (below_grown st1.2 hbel.size (fun q hq => by cases hq; exact Nat.le_refl _))
          have st2 := st1.1.set (by simpa using hl) k (t / m + 1)
          have hb2 : Below w.heap.size w _ := hb1.trans (below_grown st2.2 hb1.size (fun q hq => by cases hq; exact Nat.le_refl _))
          have HA := Lib.hid hys
          have HL := Lib.hid hl
          have O1 := Lib.hid st1.1
          have O2 := Lib.hid st2.1
          clear hys hl st1 st2 hown ho0
          have hq0 : 0 ≤ t / (m : Int) := Int.ediv_nonneg (by omega) (by omega)
          have hq1 : t / (m : Int) ≤ t := Int.ediv_le_self _ (by omega)
          by_cases hr : (k : Int) < t % (m : Int)
          · go_wp2
            go_roundw
            case rel =>
              refine ⟨k + 1, _, by omega, by go_num, ?_, ?_, O2.out, hb2⟩
              · simpa using HL.out
              · intro j hj
                by_cases hjk : j = k
                · subst hjk
                  rw [getD_set_eq _ _ _ (by simpa using hkl), evenAt, if_pos hr]
                · rw [getD_set_ne _ _ _ _ hjk, getD_set_ne _ _ _ _ hjk]
                  exact HA.out j (by omega)
            case measure => simp [intOf]; omega
          · go_wp2
            go_roundw
            case rel =>
              refine ⟨k + 1, _, by omega, by go_num, ?_, ?_, O1.out, hb1⟩
              · simpa using HL.out
              · intro j hj
                by_cases hjk : j = k
                · subst hjk
                  rw [getD_set_eq _ _ _ hkl, evenAt, if_neg hr]
                · rw [getD_set_ne _ _ _ _ hjk]
                  exact HA.out j (by omega)
            case measure => simp [intOf]; omega
        · have e := list_of_getD ys m (evenAt t m) hl (fun j hj => hys j (by omega))
          rw [e, ← HS.out] at hown
          clear hl hys e
          go_wp2
          go_ret
          exact ⟨_, rfl, hown, hbel⟩

set_option maxHeartbeats 800000 in
theorem SplitEven_spec (t n : Int) (w : World) :
    Calls Try.prog 91 #[.int .i64 t, .int .i64 n] w fun e w' => ∃ v, e = .returned v ∧ Own w' w.heap.size v (splitL t n) ∧ Below w.heap.size w w' := by
  cases h1 : inR t 0 100000
  · go_enter Try.func91, Try.ntmps91
    go_wp2_with (go_at_call 88; refine (inRange_spec _ _ _ _).mono ?_; rintro e w' ⟨rfl, rfl⟩)
    go_ret
    exact ⟨_, rfl, by rw [splitL_no1 h1]; exact own_nil _ _, Below.refl _ _⟩
  · cases h2 : inR n 1 8
    · go_enter Try.func91, Try.ntmps91
      go_wp2_with (go_at_call 88; refine (inRange_spec _ _ _ _).mono ?_; rintro e w' ⟨rfl, rfl⟩)
      go_ret
      exact ⟨_, rfl, by rw [splitL_no2 h2]; exact own_nil _ _, Below.refl _ _⟩
    · have b1 := inR_true h1
      have b2 := inR_true h2
      obtain ⟨m, rfl⟩ : ∃ m : Nat, n = m := ⟨n.toNat, by omega⟩
      have HS := Lib.hid (splitL_yes h1 h2)
      have ho0 := own_empty w w.heap.size (Nat.le_refl _)
      have hb0 : Below w.heap.size w (w.alloc (.cells #[] 3)) := (Below.refl _ _).alloc (Nat.le_refl _) _
      go_enter Try.func91, Try.ntmps91
      go_wp2_with (go_at_call 88; refine (inRange_spec _ _ _ _).mono ?_; rintro e w' ⟨rfl, rfl⟩)
      go_loopw [5, 6] (fun v i wr => ∃ k : Nat, k ≤ m ∧ i = .int .i64 k ∧ Own wr w.heap.size v ((List.range k).map (evenAt t m)) ∧ Below w.heap.size w wr)
        (fun _ i _ => m - (intOf i).toNat)
      case atStart => exact ⟨0, Nat.zero_le _, rfl, ho0, hb0⟩
      case round =>
        obtain ⟨k, hk, rfl, hown, hbel⟩ := hrel
        have hq0 : 0 ≤ t / (m : Int) := Int.ediv_nonneg (by omega) (by omega)
        have hq1 : t / (m : Int) ≤ t := Int.ediv_le_self _ (by omega)
        have hsz := hbel.size
        clear ho0 hb0
        by_cases hlt : k < m
        · by_cases hr : (k : Int) < t % (m : Int)
          · go_wp2_with (at_builtin; refine wpList_push hown (by simp; omega) hsz (h := ?_))
            intro v' w1 hown1 hgr1 _
            have hb1 : Below w.heap.size w w1 := hbel.trans (hown.pushed_below hgr1 hsz)
            have e : (List.range k).map (evenAt t m) ++ [t / m + 1] = (List.range (k + 1)).map (evenAt t m) := by
              rw [List.range_succ, List.map_append, List.map_cons, List.map_nil]
              congr 2
              rw [evenAt, if_pos hr]
            rw [e] at hown1
            clear hown hgr1 e
            go_wp2
            go_roundw
            case rel => exact ⟨k + 1, by omega, by go_num, hown1, hb1⟩
            case measure => simp [intOf]; omega
          · go_wp2_with (at_builtin; refine wpList_push hown (by simp; omega) hsz (h := ?_))
            intro v' w1 hown1 hgr1 _
            have hb1 : Below w.heap.size w w1 := hbel.trans (hown.pushed_below hgr1 hsz)
            have e : (List.range k).map (evenAt t m) ++ [t / m] = (List.range (k + 1)).map (evenAt t m) := by
              rw [List.range_succ, List.map_append, List.map_cons, List.map_nil]
              congr 2
              rw [evenAt, if_neg (by omega)]
            rw [e] at hown1
            clear hown hgr1 e
            go_wp2
            go_roundw
            case rel => exact ⟨k + 1, by omega, by go_num, hown1, hb1⟩
            case measure => simp [intOf]; omega
        · have hk2 : k = m := by omega
          subst hk2
          rw [← HS.out] at hown
          go_wp2
          go_ret
          exact ⟨_, rfl, hown, hbel⟩

theorem splitL_length (t n : Int) : (splitL t n).length ≤ 8 := by
  unfold splitL
  split
  · rename_i h
    have := inR_true h.2
    simp
    omega
  · simp

end Go.Proofs.Ytbedjebnllimpaa
