/- Payments: copied, compared, marked by the laws. -/
import Derived.Test.YtbedjebnllimpaaPay
import Derived.Test.YtbedjebnllimpaaEqQuiet
namespace Go.Proofs.Ytbedjebnllimpaa
open Go.RowKit

theorem pF_getElem {st : List (Int × Int × Int)} {j : Nat} (hj : j < st.length) : st[j] = (pF st j, pT st j, pA st j) := by
  simp [pF, pT, pA, List.getD, hj]

/-- The block b holds a payment alone. -/
def IsBoxP (w : World) (b : Nat) (f t a : Int) : Prop := w.heap[b]? = some (.cells #[.int .i64 f, .int .i64 t, .int .i64 a] 42 (0, 0))

theorem heap_alloc2_newP (w : World) (o o' : Obj) : ((w.alloc o).alloc o').heap[w.heap.size + 1]? = some o' := by
  have := heap_alloc_new (w.alloc o) o'
  rwa [show (w.alloc o).heap.size = w.heap.size + 1 by simp] at this

set_option maxHeartbeats 400000 in
theorem toPay_any (f t a : Int) (w : World) :
    Calls Try.prog 95 #[.agg #[.int .i64 f, .int .i64 t, .int .i64 a]] w fun e w' => e = .returned (pv f t a) ∧ Below w.heap.size w w' := by
  go_enter Try.func95, Try.ntmps95
  go_wp2
  have hbx : IsBoxP (((w.alloc (.cells #[.int .i64 f, .int .i64 t, .int .i64 a] 71)).alloc (.cells #[.int .i64 f, .int .i64 t, .int .i64 a] 42)).alloc (.cells #[.int .i64 f, .int .i64 t, .int .i64 a] 42)) (w.heap.size + 1) f t a :=
    (Below.heap_alloc _ _ _ (by simp)).trans (heap_alloc2_newP _ _ _)
  exact bodyPost_ret (v := pv f t a) (results_cell_row rfl _ _ (w.heap.size + 1) 42 _ (0, 0) _ rfl hbx Try.underlying42 rfl (by kernel_rfl)) rfl ⟨rfl, (((Below.refl _ _).alloc (Nat.le_refl _) _).alloc (by simp) _).alloc (by simp; omega) _⟩

/-- The first k payments, and zeros. -/
def fillP (st : List (Int × Int × Int)) (k : Nat) : List (Int × Int × Int) := st.take k ++ List.replicate (st.length - k) (0, 0, 0)
theorem fillP_length (st : List (Int × Int × Int)) (k : Nat) (hk : k ≤ st.length) : (fillP st k).length = st.length := by simp [fillP]; omega
theorem fillP_set (st : List (Int × Int × Int)) (k : Nat) (hk : k < st.length) : (fillP st k).set k (pF st k, pT st k, pA st k) = fillP st (k + 1) := by
  unfold fillP
  have e : st.length - k = (st.length - (k + 1)) + 1 := by omega
  have hl : (st.take k).length = k := by simp; omega
  rw [e, List.replicate_succ, List.take_succ_eq_append_getElem hk, List.append_assoc, List.set_append_right _ _ (by omega), hl, Nat.sub_self, pF_getElem hk]
  rfl
theorem fillP_end (st : List (Int × Int × Int)) : fillP st st.length = st := by simp [fillP]
theorem fillP_zero (st : List (Int × Int × Int)) : fillP st 0 = List.replicate st.length (0, 0, 0) := by simp [fillP]

set_option maxHeartbeats 1600000 in
theorem toPayS_any (v : Value) (st : List (Int × Int × Int)) (w : World) (hv : IsPays w v st) (hl : st.length ≤ 1048576) :
    Calls Try.prog 63 #[v] w fun e w' => ∃ v', e = .returned v' ∧ OwnP w' w.heap.size v' st ∧ Below w.heap.size w w' := by
  have hv' := hv
  obtain ⟨a, cap, rfl, hc⟩ := hv
  obtain ⟨i0, hi, hz0, hz1, hz2⟩ := info_parts infoPay
  go_enter Try.func63, Try.ntmps63
  go_wp2_with (at_make; refine wpList_make_full _ rfl _ _ 34 rfl w.heap.size 42 i0 (.agg #[.int .i64 0, .int .i64 0, .int .i64 0]) 3 Try.underlying34 hi hz0 hz1 _ _ _ _ st.length rfl rfl rfl rfl ?b2 ?b3 (Nat.le_refl _) ?_)
  case b2 => rw [hz2]; omega
  case b3 => unfold maxLen; omega
  intro w0 hown0 hgrow0
  have hb0 : Below w.heap.size w w0 := below_grown hgrow0 (Nat.le_refl _) (fun k h => by cases h)
  have hown1 : w0.ownsRow w.heap.size 42 3 (slP w.heap.size st.length st.length) st.length (madeCells (Value.agg #[.int .i64 0, .int .i64 0, .int .i64 0]).cells (st.length * 3)).toList := hown0
  rw [toList_madeCells_pay, ← fillP_zero] at hown1
  have hw0 : OwnP w0 w.heap.size (slP w.heap.size st.length st.length) (fillP st 0) := by
    unfold OwnP
    rw [fillP_length _ _ (Nat.zero_le _)]
    exact hown1
  clear hown0 hown1 hgrow0
  go_wp2
  go_loopw [4] (fun i wr => ∃ k : Nat, k ≤ st.length ∧ i = .int .i64 k ∧ OwnP wr w.heap.size (slP w.heap.size st.length st.length) (fillP st k) ∧ Below w.heap.size w wr)
    (fun i _ => st.length - (intOf i).toNat)
  case atStart => exact ⟨0, Nat.zero_le _, rfl, hw0, hb0⟩
  case round =>
    clear hw0 hb0
    obtain ⟨k, hk, rfl, hown, hbel⟩ := hrel
    by_cases hlt : k < st.length
    · obtain ⟨b, off, rfl, c0, c1, c2⟩ := hc k hlt
      have hbb : b < w.heap.size := World.block_lt_of_cell? w _ c0
      have d0 : wr.cell? ⟨b, off + k * 3, none⟩ = some (.int .i64 (pF st k)) := (hbel.cell (by exact hbb)).trans c0
      have d1 : wr.cell? ⟨b, off + k * 3 + 1, none⟩ = some (.int .i64 (pT st k)) := (hbel.cell (by exact hbb)).trans c1
      have d2 : wr.cell? ⟨b, off + k * 3 + 2, none⟩ = some (.int .i64 (pA st k)) := (hbel.cell (by exact hbb)).trans c2
      have k1 : (k : Int) < (st.length : Int) := by omega
      clear hc hv' c0 c1 c2
      go_wp2_with fail
      refine (toPay_any _ _ _ _).mono ?_
      rintro e w2 ⟨rfl, hb2⟩
      have own2 := hown.below hb2
      have hbl2 : Below w.heap.size w w2 := hbel.trans (hb2.mono hbel.size)
      have hll := fillP_length st k hk
      obtain ⟨⟨e0, e1, e2⟩, f0⟩ := own2.at hll k hlt
      have f1 := f0 (k * 3)
      have f2 := f0 (k * 3 + 1)
      have f3 := f0 (k * 3 + 2)
      have hst := own2.set hll k hlt (pF st k) (pT st k) (pA st k)
      rw [fillP_set st k hlt] at hst
      have H1 := Lib.hid hst.1
      have H2 := Lib.hid (hbl2.trans (below_grown (B := w.heap.size) hst.2 hbl2.size (fun q hq => by cases hq; exact Nat.le_refl _)))
      clear hst f0 own2 hown hll
      go_wp2
      go_roundw
      case rel => exact ⟨k + 1, by omega, by go_num, H1.out, H2.out⟩
      case measure => simp [intOf]; omega
    · have hk2 : k = st.length := by omega
      rw [hk2, fillP_end] at hown
      go_wp2
      go_ret
      exact ⟨_, rfl, hown, hbel⟩

/-- The marks of n payments from q on. -/
def marksP (q : Int) : Nat → List (Int × Int × Int)
  | 0 => []
  | n + 1 => marksP q n ++ [(q + 3 * n, q + 3 * n + 1, q + 3 * n + 1 + 1)]
theorem marksP_length (q : Int) (n : Nat) : (marksP q n).length = n := by
  induction n with
  | zero => rfl
  | succ n ih => simp [marksP, ih]
theorem marksP_at (q : Int) (n j : Nat) (h : j < n) : pF (marksP q n) j = q + 3 * j ∧ pT (marksP q n) j = q + 3 * j + 1 ∧ pA (marksP q n) j = q + 3 * j + 1 + 1 := by
  induction n with
  | zero => omega
  | succ n ih =>
    have hl := marksP_length q n
    by_cases hj : j < n
    · have := ih hj
      simpa [marksP, pF, pT, pA, List.getD, List.getElem?_append_left (show j < (marksP q n).length by omega)] using this
    · have e : j = n := by omega
      subst e
      simp [marksP, pF, pT, pA, List.getD, hl]

theorem marksP_set (st : List (Int × Int × Int)) (q : Int) (k : Nat) (h : k < st.length) : (marksP q k ++ st.drop k).set k (q + 3 * k, q + 3 * k + 1, q + 3 * k + 1 + 1) = marksP q (k + 1) ++ st.drop (k + 1) := by
  have hl := marksP_length q k
  rw [List.set_append_right _ _ (by omega), hl, Nat.sub_self, List.drop_eq_getElem_cons h, marksP, List.set_cons_zero]
  simp

set_option maxHeartbeats 1600000 in
theorem markPayS_any (v : Value) (st : List (Int × Int × Int)) (q : Int) (B : Nat) (w : World) (hv : OwnP w B v st) (hl : st.length ≤ 1048576) (hq0 : 0 ≤ q) (hq : q ≤ 4294967296) :
    Calls Try.prog 60 #[v, .int .i64 q] w fun e w' => e = .returned (.int .i64 (q + 3 * st.length)) ∧ OwnP w' B v (marksP q st.length) ∧ w.grownBy w' v.ownBlock := by
  have hv0 := hv
  rcases hv.2 with ⟨rfl, hn⟩ | ⟨g, cap, cur, rfl, hgB, _⟩
  · have hx : st = [] := List.length_eq_zero_iff.1 hn
    subst hx
    go_enter Try.func60, Try.ntmps60
    go_wp2
    refine wp_loop_rounds 1 ?_
    rw [rounds_succ]
    go_wp2
    go_ret
    exact ⟨ret_int (by simp), hv0, World.grownBy.refl _ _⟩
  · clear hv
    go_enter Try.func60, Try.ntmps60
    go_wp2
    go_loopw [1, 5] (fun q' i wr => ∃ k : Nat, k ≤ st.length ∧ i = .int .i64 k ∧ q' = .int .i64 (q + 3 * k) ∧ OwnP wr B (slP g st.length cap) (marksP q k ++ st.drop k) ∧ w.grownBy wr (some g))
      (fun _ i _ => st.length - (intOf i).toNat)
    case atStart => exact ⟨0, Nat.zero_le _, rfl, by simp, by simpa [marksP] using hv0, World.grownBy.refl _ _⟩
    case round =>
      obtain ⟨k, hk, rfl, rfl, hown, hgr⟩ := hrel
      have hll : (marksP q k ++ st.drop k).length = st.length := by simp [marksP_length]; omega
      by_cases hlt : k < st.length
      · obtain ⟨⟨c0, c1, c2⟩, f0⟩ := hown.at hll k hlt
        have g0 := f0 (k * 3)
        have g1 := f0 (k * 3 + 1)
        have g2 := f0 (k * 3 + 2)
        have hst := hown.set hll k hlt (q + 3 * k) (q + 3 * k + 1) (q + 3 * k + 1 + 1)
        rw [marksP_set st q k hlt] at hst
        have H1 := Lib.hid hst.1
        have H2 := Lib.hid (hgr.trans hst.2)
        have k1 : (k : Int) < (st.length : Int) := by omega
        clear hst hv0 hll hown f0
        generalize pF (marksP q k ++ st.drop k) k = x0 at c0
        generalize pT (marksP q k ++ st.drop k) k = x1 at c1
        generalize pA (marksP q k ++ st.drop k) k = x2 at c2
        go_wp2
        go_roundw
        case rel => exact ⟨k + 1, by omega, by go_num, by go_num, H1.out, H2.out⟩
        case measure => simp [intOf]; omega
      · have hk2 : k = st.length := by omega
        subst hk2
        have H1 : OwnP wr B (slP g st.length cap) (marksP q st.length) := by simpa using hown
        clear hown
        go_wp2
        go_ret
        exact ⟨rfl, H1, hgr⟩

set_option maxHeartbeats 1600000 in
theorem heldPayS_any (v : Value) (n : Nat) (q : Int) (w : World) (hv : IsPays w v (marksP q n)) (hl : n ≤ 1048576) (hq0 : 0 ≤ q) (hq : q ≤ 4294967296) :
    Calls Try.prog 61 #[v, .int .i64 q] w fun e w' => e = .returned (.int .i64 (q + 3 * n)) ∧ w = w' := by
  obtain ⟨a, cap, rfl, hc⟩ := hv
  rw [marksP_length] at hc ⊢
  go_enter Try.func61, Try.ntmps61
  go_wp2
  go_loop [1, 5] (fun q' i => ∃ k : Nat, k ≤ n ∧ i = .int .i64 k ∧ q' = .int .i64 (q + 3 * k)) (fun _ i => n - (intOf i).toNat)
  case atStart => exact ⟨0, Nat.zero_le _, rfl, by simp⟩
  case round =>
    obtain ⟨k, hk, rfl, rfl⟩ := hrel
    by_cases hlt : k < n
    · obtain ⟨b, off, rfl, c0, c1, c2⟩ := hc k hlt
      obtain ⟨m0, m1, m2⟩ := marksP_at q n k hlt
      rw [m0] at c0
      rw [m1] at c1
      rw [m2] at c2
      have k1 : (k : Int) < (n : Int) := by omega
      have hne : (q + 3 * (k : Int) != q + 3 * (k : Int)) = false := by simp
      have hne2 : (q + 3 * (k : Int) + 1 != q + 3 * (k : Int) + 1) = false := by simp
      have hne3 : (q + 3 * (k : Int) + 1 + 1 != q + 3 * (k : Int) + 1 + 1) = false := by simp
      clear hc m0 m1 m2
      go_wp2
      go_round
      case rel => exact ⟨k + 1, by omega, by go_num, by go_num⟩
      case measure => simp [intOf]; omega
    · have hk2 : k = n := by omega
      subst hk2
      clear hc
      go_wp2
      go_ret
      exact ⟨rfl, rfl⟩

set_option maxHeartbeats 800000 in
theorem equalPays_same (va vb : Value) (st : List (Int × Int × Int)) (w : World) (ha : IsPays w va st) (hb : IsPays w vb st) (hl : st.length ≤ 9223372036854775807) :
    Calls Try.prog 42 #[va, vb] w fun e w' => e = .returned (.bool true) ∧ Drawn w w' := by
  obtain ⟨a, cap, rfl, hc⟩ := ha
  obtain ⟨a2, cap2, rfl, hc2⟩ := hb
  go_enter Try.func42, Try.ntmps42
  go_wp2
  go_loopw [5] (fun i wr => ∃ k : Nat, k ≤ st.length ∧ i = .int .i64 k ∧ Drawn w wr) (fun i _ => st.length - (intOf i).toNat)
  case atStart => exact ⟨0, Nat.zero_le _, rfl, Drawn.refl _⟩
  case round =>
    obtain ⟨k, hk, rfl, hdr⟩ := hrel
    by_cases hlt : k < st.length
    · obtain ⟨b, off, rfl, c0, c1, c2⟩ := hc k hlt
      obtain ⟨b2, off2, rfl, e0, e1, e2⟩ := hc2 k hlt
      have d0 : wr.cell? ⟨b, off + k * 3, none⟩ = some (.int .i64 (pF st k)) := (hdr.cell _).trans c0
      have d1 : wr.cell? ⟨b, off + k * 3 + 1, none⟩ = some (.int .i64 (pT st k)) := (hdr.cell _).trans c1
      have d2 : wr.cell? ⟨b, off + k * 3 + 2, none⟩ = some (.int .i64 (pA st k)) := (hdr.cell _).trans c2
      have g0 : wr.cell? ⟨b2, off2 + k * 3, none⟩ = some (.int .i64 (pF st k)) := (hdr.cell _).trans e0
      have g1 : wr.cell? ⟨b2, off2 + k * 3 + 1, none⟩ = some (.int .i64 (pT st k)) := (hdr.cell _).trans e1
      have g2 : wr.cell? ⟨b2, off2 + k * 3 + 2, none⟩ = some (.int .i64 (pA st k)) := (hdr.cell _).trans e2
      have k1 : (k : Int) < (st.length : Int) := by omega
      clear hc hc2 c0 c1 c2 e0 e1 e2
      go_wp2
      go_quiet (fail)
      go_wp2
      go_roundw
      case rel => exact ⟨k + 1, by omega, by go_num, hdr.more _⟩
      case measure => simp [intOf]; omega
    · clear hc hc2
      go_wp2
      go_ret
      exact ⟨rfl, hdr⟩

end Go.Proofs.Ytbedjebnllimpaa
