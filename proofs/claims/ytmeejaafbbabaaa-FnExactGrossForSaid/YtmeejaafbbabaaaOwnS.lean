/- Slices of steps that a call makes itself: contracts of copying, comparing, marking. -/
import Derived.Test.YtmeejaafbbabaaaQB
import Derived.Maps.AppendAt
namespace Go.Proofs.Ytmeejaafbbabaaa
open Go.RowKit

/-- The cells of steps. -/
def cellsS (st : List (Int × Int)) : List Value := st.flatMap fun p => [.int .i64 p.1, .int .i64 p.2]

theorem cellsS_cons (p : Int × Int) (st : List (Int × Int)) : cellsS (p :: st) = .int .i64 p.1 :: .int .i64 p.2 :: cellsS st := rfl
theorem cellsS_append (a b : List (Int × Int)) : cellsS (a ++ b) = cellsS a ++ cellsS b := by simp [cellsS]
theorem cellsS_length (st : List (Int × Int)) : (cellsS st).length = st.length * 2 := by
  induction st with
  | nil => rfl
  | cons p st ih => rw [cellsS_cons, List.length_cons, List.length_cons, ih, List.length_cons]; omega

theorem cellsS_at (st : List (Int × Int)) (j : Nat) (hj : j < st.length) : (cellsS st)[j * 2]? = some (.int .i64 (frm st j)) ∧ (cellsS st)[j * 2 + 1]? = some (.int .i64 (rat st j)) := by
  induction st generalizing j with
  | nil => simp at hj
  | cons p st ih =>
    cases j with
    | zero => simp [cellsS_cons, frm, rat]
    | succ j =>
      have := ih j (by simpa using hj)
      rw [cellsS_cons, show (j + 1) * 2 = j * 2 + 1 + 1 by omega]
      simpa [frm, rat] using this

theorem cellsS_set (st : List (Int × Int)) (j : Nat) (hj : j < st.length) (f r : Int) : ((cellsS st).set (j * 2) (.int .i64 f)).set (j * 2 + 1) (.int .i64 r) = cellsS (st.set j (f, r)) := by
  induction st generalizing j with
  | nil => simp at hj
  | cons p st ih =>
    cases j with
    | zero => simp [cellsS_cons]
    | succ j =>
      have := ih j (by simpa using hj)
      rw [cellsS_cons, show (j + 1) * 2 = j * 2 + 1 + 1 by omega, List.set_cons_succ, List.set_cons_succ, List.set_cons_succ, List.set_cons_succ, this, List.set_cons_succ, cellsS_cons]

theorem cellsS_set0 (st : List (Int × Int)) (j : Nat) (hj : j < st.length) (f : Int) : (cellsS st).set (j * 2) (.int .i64 f) = cellsS (st.set j (f, rat st j)) := by
  induction st generalizing j with
  | nil => simp at hj
  | cons p st ih =>
    cases j with
    | zero => simp [cellsS_cons, rat]
    | succ j =>
      have := ih j (by simpa using hj)
      rw [cellsS_cons, show (j + 1) * 2 = j * 2 + 1 + 1 by omega, List.set_cons_succ, List.set_cons_succ, this, List.set_cons_succ, cellsS_cons]
      simp [rat]

theorem cellsS_replicate (n : Nat) : cellsS (List.replicate n (0, 0)) = List.replicate (n * 2) (Value.int .i64 0) := by
  induction n with
  | zero => rfl
  | succ n ih => rw [List.replicate_succ, cellsS_cons, ih, show (n + 1) * 2 = n * 2 + 1 + 1 by omega, List.replicate_succ, List.replicate_succ]

theorem toList_madeCells_step (n : Nat) : (madeCells (Value.agg #[.int .i64 0, .int .i64 0]).cells (n * 2)).toList = cellsS (List.replicate n (0, 0)) := by
  rw [cellsS_replicate]
  unfold madeCells
  apply List.ext_getElem
  · simp
  · intro i h1 h2
    simp [Value.cells]
    rcases Nat.mod_two_eq_zero_or_one i with h | h <;> rw [h] <;> rfl

theorem infoStep : (Try.prog.info? 33).map (fun i => (i.zero, i.size, i.bytes)) = some (some (.agg #[.int .i64 0, .int .i64 0]), 2, 16) := by kernel_rfl

/-- v is a slice of steps st that lies in a block of the call's own, from B on (or nil where there are none). -/
def OwnS (w : World) (B : Nat) (v : Value) (st : List (Int × Int)) : Prop := w.ownsRow B 33 2 v st.length (cellsS st)

theorem grown_belowS {w w' : World} (h : Below w.heap.size w w') (row : Option Nat) : w.grownBy w' row := ⟨h.os, h.tape, h.output, h.size, fun k hk _ => h.block k hk⟩

theorem OwnS.below {w w' : World} {B : Nat} {v : Value} {st : List (Int × Int)} (h : OwnS w B v st) (hb : Below w.heap.size w w') : OwnS w' B v st :=
  World.ownsRow.kept h (grown_belowS hb none) (by cases hv : v.ownBlock <;> simp)
theorem OwnS.base {w : World} {B B' : Nat} {v : Value} {st : List (Int × Int)} (h : OwnS w B v st) (hb : B' ≤ B) : OwnS w B' v st := by
  refine ⟨h.1, ?_⟩
  rcases h.2 with hn | ⟨g, cap, cur, hv, hg, rest⟩
  · exact .inl hn
  · exact .inr ⟨g, cap, cur, hv, by omega, rest⟩
theorem OwnS.lt {w : World} {B : Nat} {v : Value} {st : List (Int × Int)} (h : OwnS w B v st) : ∀ k, v.ownBlock = some k → B ≤ k ∧ k < w.heap.size := World.ownsRow.lt h
theorem OwnS.kept {w w' : World} {B : Nat} {v : Value} {st : List (Int × Int)} {row : Option Nat} (h : OwnS w B v st) (hg : w.grownBy w' row) (hne : v.ownBlock = none ∨ v.ownBlock ≠ row) : OwnS w' B v st := World.ownsRow.kept h hg hne

theorem OwnS.steps {w : World} {B : Nat} {v : Value} {st : List (Int × Int)} (h : OwnS w B v st) : IsSteps w v st := by
  have h0 := h
  rcases h.2 with ⟨rfl, hn⟩ | ⟨g, cap, cur, rfl, _⟩
  · exact ⟨none, 0, by rw [hn], fun j hj => by omega⟩
  · refine ⟨_, cap, rfl, fun j hj => ⟨g, 0, rfl, ?_, ?_⟩⟩
    · rw [Nat.zero_add, World.ownsRow.cellAt h0 (j * 2) (by omega)]
      exact (cellsS_at st j hj).1
    · rw [Nat.zero_add, World.ownsRow.cellAt h0 (j * 2 + 1) (by omega)]
      exact (cellsS_at st j hj).2

/-- The value of a slice of n steps at the head of block g. -/
abbrev slS (g n cap : Nat) : Value := .slice (some ⟨g, 0, none⟩) n cap

theorem OwnS.set {w : World} {B g n cap : Nat} {st : List (Int × Int)} (h : OwnS w B (slS g n cap) st) (hn : st.length = n) (j : Nat) (hj : j < n) (f r : Int) :
    OwnS ((w.setCell ⟨g, j * 2, none⟩ (.int .i64 f)).setCell ⟨g, j * 2 + 1, none⟩ (.int .i64 r)) B (slS g n cap) (st.set j (f, r)) ∧ w.grownBy ((w.setCell ⟨g, j * 2, none⟩ (.int .i64 f)).setCell ⟨g, j * 2 + 1, none⟩ (.int .i64 r)) (some g) := by
  subst hn
  have h1 := World.ownsRow.stored h (j * 2) (.int .i64 f)
  have h2 := World.ownsRow.stored h1.1 (j * 2 + 1) (.int .i64 r)
  refine ⟨?_, h1.2.trans h2.2⟩
  unfold OwnS
  rw [List.length_set, ← cellsS_set st j hj]
  exact h2.1

theorem below_grownS {w w' : World} {B : Nat} {row : Option Nat} (hg : w.grownBy w' row) (hB : B ≤ w.heap.size) (hr : ∀ k, row = some k → B ≤ k) : Below B w w' := (Below.refl B w).grown hg hB hr

theorem frm_getElem {st : List (Int × Int)} {j : Nat} (hj : j < st.length) : st[j] = (frm st j, rat st j) := by
  simp [frm, rat, List.getD, hj]

set_option maxHeartbeats 400000 in
theorem toStep_any (f r : Int) (w : World) :
    Calls Try.prog 64 #[.agg #[.int .i64 f, .int .i64 r]] w fun e w' => e = .returned (sv f r) ∧ Below w.heap.size w w' := by
  go_enter Try.func64, Try.ntmps64
  go_wp2
  have hbx : IsBox (((w.alloc (.cells #[.int .i64 f, .int .i64 r] 61)).alloc (.cells #[.int .i64 f, .int .i64 r] 33)).alloc (.cells #[.int .i64 f, .int .i64 r] 33)) (w.heap.size + 1) f r :=
    IsBox.alloc (heap_alloc2_new _ _ _) _
  exact bodyPost_ret (v := sv f r) (results_cell_row rfl _ _ (w.heap.size + 1) 33 _ (0, 0) _ rfl hbx Try.underlying33 rfl (by kernel_rfl)) rfl ⟨rfl, (((Below.refl _ _).alloc (Nat.le_refl _) _).alloc (by simp) _).alloc (by simp; omega) _⟩

/-- The first k steps, and zeros. -/
def fillS (st : List (Int × Int)) (k : Nat) : List (Int × Int) := st.take k ++ List.replicate (st.length - k) (0, 0)
theorem fillS_length (st : List (Int × Int)) (k : Nat) (hk : k ≤ st.length) : (fillS st k).length = st.length := by simp [fillS]; omega
theorem fillS_set (st : List (Int × Int)) (k : Nat) (hk : k < st.length) : (fillS st k).set k (frm st k, rat st k) = fillS st (k + 1) := by
  unfold fillS
  have e : st.length - k = (st.length - (k + 1)) + 1 := by omega
  have hl : (st.take k).length = k := by simp; omega
  rw [e, List.replicate_succ, List.take_succ_eq_append_getElem hk, List.append_assoc, List.set_append_right _ _ (by omega), hl, Nat.sub_self, frm_getElem hk]
  rfl
theorem fillS_end (st : List (Int × Int)) : fillS st st.length = st := by simp [fillS]
theorem fillS_zero (st : List (Int × Int)) : fillS st 0 = List.replicate st.length (0, 0) := by simp [fillS]

set_option maxHeartbeats 800000 in
theorem toStepS_any (v : Value) (st : List (Int × Int)) (w : World) (hv : IsSteps w v st) (hl : st.length ≤ 1048576) :
    Calls Try.prog 45 #[v] w fun e w' => ∃ v', e = .returned v' ∧ OwnS w' w.heap.size v' st ∧ Below w.heap.size w w' := by
  have hv' := hv
  obtain ⟨a, cap, rfl, hc⟩ := hv
  obtain ⟨i0, hi, hz0, hz1, hz2⟩ := info_parts infoStep
  go_enter Try.func45, Try.ntmps45
  go_wp2_with (at_make; refine wpList_make_full _ rfl _ _ 23 rfl w.heap.size 33 i0 (.agg #[.int .i64 0, .int .i64 0]) 2 Try.underlying23 hi hz0 hz1 _ _ _ _ st.length rfl rfl rfl rfl ?b2 ?b3 (Nat.le_refl _) ?_)
  case b2 => rw [hz2]; omega
  case b3 => unfold maxLen; omega
  intro w0 hown0 hgrow0
  have hb0 : Below w.heap.size w w0 := below_grownS hgrow0 (Nat.le_refl _) (fun k h => by cases h)
  have hown1 : w0.ownsRow w.heap.size 33 2 (slS w.heap.size st.length st.length) st.length (madeCells (Value.agg #[.int .i64 0, .int .i64 0]).cells (st.length * 2)).toList := hown0
  rw [toList_madeCells_step, ← fillS_zero] at hown1
  have hw0 : OwnS w0 w.heap.size (slS w.heap.size st.length st.length) (fillS st 0) := by
    unfold OwnS
    rw [fillS_length _ _ (Nat.zero_le _)]
    exact hown1
  clear hown0 hown1 hgrow0
  go_wp2
  go_loopw [4] (fun i wr => ∃ k : Nat, k ≤ st.length ∧ i = .int .i64 k ∧ OwnS wr w.heap.size (slS w.heap.size st.length st.length) (fillS st k) ∧ Below w.heap.size w wr)
    (fun i _ => st.length - (intOf i).toNat)
  case atStart => exact ⟨0, Nat.zero_le _, rfl, hw0, hb0⟩
  case round =>
    clear hw0 hb0
    obtain ⟨k, hk, rfl, hown, hbel⟩ := hrel
    by_cases hlt : k < st.length
    · obtain ⟨b, off, rfl, c0, c1⟩ := hc k hlt
      have hbb : b < w.heap.size := World.block_lt_of_cell? w _ c0
      have d0 : wr.cell? ⟨b, off + k * 2, none⟩ = some (.int .i64 (frm st k)) := (hbel.cell (by exact hbb)).trans c0
      have d1 : wr.cell? ⟨b, off + k * 2 + 1, none⟩ = some (.int .i64 (rat st k)) := (hbel.cell (by exact hbb)).trans c1
      have k1 : (k : Int) < (st.length : Int) := by omega
      clear hc hv'
      go_wp2_with fail
      refine (toStep_any _ _ _).mono ?_
      rintro e w2 ⟨rfl, hb2⟩
      have own2 := hown.below hb2
      have hbl2 : Below w.heap.size w w2 := hbel.trans (hb2.mono hbel.size)
      have hll := fillS_length st k hk
      have e0 : ∃ u, w2.cell? ⟨w.heap.size, k * 2, none⟩ = some u := by
        refine ⟨_, (World.ownsRow.cellAt (show w2.ownsRow w.heap.size 33 2 (slS w.heap.size st.length st.length) st.length (cellsS (fillS st k)) by have h := own2; unfold OwnS at h; rwa [hll] at h) (k * 2) (by omega)).trans (cellsS_at _ k (by omega)).1⟩
      have e1 : ∃ u, w2.cell? ⟨w.heap.size, k * 2 + 1, none⟩ = some u := by
        refine ⟨_, (World.ownsRow.cellAt (show w2.ownsRow w.heap.size 33 2 (slS w.heap.size st.length st.length) st.length (cellsS (fillS st k)) by have h := own2; unfold OwnS at h; rwa [hll] at h) (k * 2 + 1) (by omega)).trans (cellsS_at _ k (by omega)).2⟩
      have f0 : ∀ j, w2.frozen? ⟨w.heap.size, j, none⟩ = false := fun j => World.ownsRow.frozenAt (show w2.ownsRow w.heap.size 33 2 (slS w.heap.size st.length st.length) st.length (cellsS (fillS st k)) by have h := own2; unfold OwnS at h; rwa [hll] at h) j
      have f1 := f0 (k * 2)
      have f2 := f0 (k * 2 + 1)
      obtain ⟨u0, e0⟩ := e0
      obtain ⟨u1, e1⟩ := e1
      have hst := own2.set hll k hlt (frm st k) (rat st k)
      rw [fillS_set st k hlt] at hst
      have H1 := Lib.hid hst.1
      have H2 := Lib.hid (hbl2.trans (below_grownS (B := w.heap.size) hst.2 hbl2.size (fun q hq => by cases hq; exact Nat.le_refl _)))
      clear hst f0 own2 hown hll
      go_wp2
      go_roundw
      case rel => exact ⟨k + 1, by omega, by go_num, H1.out, H2.out⟩
      case measure => simp [intOf]; omega
    · have hk2 : k = st.length := by omega
      rw [hk2, fillS_end] at hown
      go_wp2
      go_ret
      exact ⟨_, rfl, hown, hbel⟩

end Go.Proofs.Ytmeejaafbbabaaa
