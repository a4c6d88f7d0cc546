/- Rows of ratios in memory: read, made, copied, compared; what the frame tells of them. -/
import Derived.Test.YtiffjeclpgcabaaRatV
import Derived.Test.YtiffjeclpgcabaaQK
import Derived.Laws.Rows
import Derived.Laws.Tables
import Derived.Laws.CopyOwn
import Derived.Test.YtiffjeclpgcabaaOwnB
import Derived.WalkSmall
import Derived.Deep.QuietTactic
import Derived.OwnWalk
import Derived.Maps.AppendAt
import Derived.Deep.Slices
import Derived.Deep.Fields
import Derived.ChangeSame
import Derived.ProofKit
import Derived.OpenShut
namespace Go.Proofs.Ytiffjeclpgcabaa
open Go.RowKit Go.ChangeShapes Go.WideShapes

theorem heap_alloc2_newR (w : World) (o o' : Obj) : ((w.alloc o).alloc o').heap[w.heap.size + 1]? = some o' := by
  have := heap_alloc_new (w.alloc o) o'
  rwa [show (w.alloc o).heap.size = w.heap.size + 1 by simp] at this

theorem IsBoxR.alloc {w : World} {b : Nat} {u d : Int} (h : IsBoxR w b u d) (o : Obj) : IsBoxR (w.alloc o) b u d := h.below ((Below.refl _ _).alloc (Nat.le_refl _) _)

theorem plain_of_cellR {w : World} {a : Addr} {u : Value} (h : w.cell? (a.add 0) = some u) : ∃ b off, a = ⟨b, off, none⟩ := by
  obtain ⟨b, off, spot⟩ := a
  have hspot : spot = none := by simpa [Addr.add] using World.cell?_spot h
  subst hspot
  exact ⟨b, off, rfl⟩


/-- From of ratio i. -/
def rUp (st : List (Int × Int)) (i : Nat) : Int := (st.getD i (0, 0)).1
/-- Rate of ratio i. -/
def rDn (st : List (Int × Int)) (i : Nat) : Int := (st.getD i (0, 0)).2

/-- The slice value v reads as the ratios st in the world w. -/
def IsRs (w : World) (v : Value) (st : List (Int × Int)) : Prop :=
  ∃ a cap, v = .slice a st.length cap ∧ ∀ j, j < st.length → ∃ b off, a = some ⟨b, off, none⟩ ∧ w.cell? ⟨b, off + j * 2, none⟩ = some (.int .i64 (rUp st j)) ∧ w.cell? ⟨b, off + j * 2 + 1, none⟩ = some (.int .i64 (rDn st j))

theorem IsRs.below {w w' : World} {v : Value} {st : List (Int × Int)} (h : IsRs w v st) (hb : Below w.heap.size w w') : IsRs w' v st := by
  obtain ⟨a, cap, rfl, hc⟩ := h
  refine ⟨a, cap, rfl, fun j hj => ?_⟩
  obtain ⟨b, off, ha, h1, h2⟩ := hc j hj
  exact ⟨b, off, ha, (hb.cell (p := ⟨b, off + j * 2, none⟩) (World.block_lt_of_cell? w _ h1)).trans h1, (hb.cell (p := ⟨b, off + j * 2 + 1, none⟩) (World.block_lt_of_cell? w _ h2)).trans h2⟩

/-- Every number of the ratios fits an int. -/
def FitsRs (st : List (Int × Int)) : Prop := ∀ i, (-9223372036854775808 ≤ rUp st i ∧ rUp st i ≤ 9223372036854775807) ∧ (-9223372036854775808 ≤ rDn st i ∧ rDn st i ≤ 9223372036854775807)


/-- The cells of ratios. -/
def cellsRs (st : List (Int × Int)) : List Value := st.flatMap fun p => [.int .i64 p.1, .int .i64 p.2]

theorem cellsRs_cons (p : Int × Int) (st : List (Int × Int)) : cellsRs (p :: st) = .int .i64 p.1 :: .int .i64 p.2 :: cellsRs st := rfl
theorem cellsRs_append (a b : List (Int × Int)) : cellsRs (a ++ b) = cellsRs a ++ cellsRs b := by simp [cellsRs]
theorem cellsRs_length (st : List (Int × Int)) : (cellsRs st).length = st.length * 2 := by
  induction st with
  | nil => rfl
  | cons p st ih => rw [cellsRs_cons, List.length_cons, List.length_cons, ih, List.length_cons]; omega

theorem cellsRs_at (st : List (Int × Int)) (j : Nat) (hj : j < st.length) : (cellsRs st)[j * 2]? = some (.int .i64 (rUp st j)) ∧ (cellsRs st)[j * 2 + 1]? = some (.int .i64 (rDn st j)) := by
  induction st generalizing j with
  | nil => simp at hj
  | cons p st ih =>
    cases j with
    | zero => simp [cellsRs_cons, rUp, rDn]
    | succ j =>
      have := ih j (by simpa using hj)
      rw [cellsRs_cons, show (j + 1) * 2 = j * 2 + 1 + 1 by omega]
      simpa [rUp, rDn] using this

theorem cellsRs_set (st : List (Int × Int)) (j : Nat) (hj : j < st.length) (f r : Int) : ((cellsRs st).set (j * 2) (.int .i64 f)).set (j * 2 + 1) (.int .i64 r) = cellsRs (st.set j (f, r)) := by
  induction st generalizing j with
  | nil => simp at hj
  | cons p st ih =>
    cases j with
    | zero => simp [cellsRs_cons]
    | succ j =>
      have := ih j (by simpa using hj)
      rw [cellsRs_cons, show (j + 1) * 2 = j * 2 + 1 + 1 by omega, List.set_cons_succ, List.set_cons_succ, List.set_cons_succ, List.set_cons_succ, this, List.set_cons_succ, cellsRs_cons]

theorem cellsRs_set0 (st : List (Int × Int)) (j : Nat) (hj : j < st.length) (f : Int) : (cellsRs st).set (j * 2) (.int .i64 f) = cellsRs (st.set j (f, rDn st j)) := by
  induction st generalizing j with
  | nil => simp at hj
  | cons p st ih =>
    cases j with
    | zero => simp [cellsRs_cons, rDn]
    | succ j =>
      have := ih j (by simpa using hj)
      rw [cellsRs_cons, show (j + 1) * 2 = j * 2 + 1 + 1 by omega, List.set_cons_succ, List.set_cons_succ, this, List.set_cons_succ, cellsRs_cons]
      simp [rDn]

theorem cellsRs_replicate (n : Nat) : cellsRs (List.replicate n (0, 0)) = List.replicate (n * 2) (Value.int .i64 0) := by
  induction n with
  | zero => rfl
  | succ n ih => rw [List.replicate_succ, cellsRs_cons, ih, show (n + 1) * 2 = n * 2 + 1 + 1 by omega, List.replicate_succ, List.replicate_succ]

theorem toList_madeCells_ratio (n : Nat) : (madeCells (Value.agg #[.int .i64 0, .int .i64 0]).cells (n * 2)).toList = cellsRs (List.replicate n (0, 0)) := by
  rw [cellsRs_replicate]
  unfold madeCells
  apply List.ext_getElem
  · simp
  · intro i h1 h2
    simp [Value.cells]
    rcases Nat.mod_two_eq_zero_or_one i with h | h <;> rw [h] <;> rfl

theorem infoRatio : (Try.prog.info? 31).map (fun i => (i.zero, i.size, i.bytes)) = some (some (.agg #[.int .i64 0, .int .i64 0]), 2, 16) := by kernel_rfl

/-- v is a slice of ratios st that lies in a block of the call's own, from B on (or nil where there are none). -/
def OwnRs (w : World) (B : Nat) (v : Value) (st : List (Int × Int)) : Prop := w.ownsRow B 31 2 v st.length (cellsRs st)

theorem grown_belowR {w w' : World} (h : Below w.heap.size w w') (row : Option Nat) : w.grownBy w' row := ⟨h.os, h.tape, h.output, h.size, fun k hk _ => h.block k hk⟩

theorem OwnRs.below {w w' : World} {B : Nat} {v : Value} {st : List (Int × Int)} (h : OwnRs w B v st) (hb : Below w.heap.size w w') : OwnRs w' B v st :=
  World.ownsRow.kept h (grown_belowR hb none) (by cases hv : v.ownBlock <;> simp)
theorem OwnRs.base {w : World} {B B' : Nat} {v : Value} {st : List (Int × Int)} (h : OwnRs w B v st) (hb : B' ≤ B) : OwnRs w B' v st := by
  refine ⟨h.1, ?_⟩
  rcases h.2 with hn | ⟨g, cap, cur, hv, hg, rest⟩
  · exact .inl hn
  · exact .inr ⟨g, cap, cur, hv, by omega, rest⟩
theorem OwnRs.lt {w : World} {B : Nat} {v : Value} {st : List (Int × Int)} (h : OwnRs w B v st) : ∀ k, v.ownBlock = some k → B ≤ k ∧ k < w.heap.size := World.ownsRow.lt h
theorem OwnRs.kept {w w' : World} {B : Nat} {v : Value} {st : List (Int × Int)} {row : Option Nat} (h : OwnRs w B v st) (hg : w.grownBy w' row) (hne : v.ownBlock = none ∨ v.ownBlock ≠ row) : OwnRs w' B v st := World.ownsRow.kept h hg hne

theorem OwnRs.rs {w : World} {B : Nat} {v : Value} {st : List (Int × Int)} (h : OwnRs w B v st) : IsRs w v st := by
  have h0 := h
  rcases h.2 with ⟨rfl, hn⟩ | ⟨g, cap, cur, rfl, _⟩
  · exact ⟨none, 0, by rw [hn], fun j hj => by omega⟩
  · refine ⟨_, cap, rfl, fun j hj => ⟨g, 0, rfl, ?_, ?_⟩⟩
    · rw [Nat.zero_add, World.ownsRow.cellAt h0 (j * 2) (by omega)]
      exact (cellsRs_at st j hj).1
    · rw [Nat.zero_add, World.ownsRow.cellAt h0 (j * 2 + 1) (by omega)]
      exact (cellsRs_at st j hj).2

/-- The value of a slice of n ratios at the head of block g. -/
abbrev slR (g n cap : Nat) : Value := .slice (some ⟨g, 0, none⟩) n cap

theorem OwnRs.set {w : World} {B g n cap : Nat} {st : List (Int × Int)} (h : OwnRs w B (slR g n cap) st) (hn : st.length = n) (j : Nat) (hj : j < n) (f r : Int) :
    OwnRs ((w.setCell ⟨g, j * 2, none⟩ (.int .i64 f)).setCell ⟨g, j * 2 + 1, none⟩ (.int .i64 r)) B (slR g n cap) (st.set j (f, r)) ∧ w.grownBy ((w.setCell ⟨g, j * 2, none⟩ (.int .i64 f)).setCell ⟨g, j * 2 + 1, none⟩ (.int .i64 r)) (some g) := by
  subst hn
  have h1 := World.ownsRow.stored h (j * 2) (.int .i64 f)
  have h2 := World.ownsRow.stored h1.1 (j * 2 + 1) (.int .i64 r)
  refine ⟨?_, h1.2.trans h2.2⟩
  unfold OwnRs
  rw [List.length_set, ← cellsRs_set st j hj]
  exact h2.1

theorem below_grownR {w w' : World} {B : Nat} {row : Option Nat} (hg : w.grownBy w' row) (hB : B ≤ w.heap.size) (hr : ∀ k, row = some k → B ≤ k) : Below B w w' := (Below.refl B w).grown hg hB hr

theorem rUp_getElem {st : List (Int × Int)} {j : Nat} (hj : j < st.length) : st[j] = (rUp st j, rDn st j) := by
  simp [rUp, rDn, List.getD, hj]

set_option maxHeartbeats 400000 in
theorem toRatio_any (f r : Int) (w : World) :
    Calls Try.prog 51 #[.agg #[.int .i64 f, .int .i64 r]] w fun e w' => e = .returned (rv f r) ∧ Below w.heap.size w w' := by
  go_enter Try.func51, Try.ntmps51
  go_wp2
  have hbx : IsBoxR (((w.alloc (.cells #[.int .i64 f, .int .i64 r] 58)).alloc (.cells #[.int .i64 f, .int .i64 r] 31)).alloc (.cells #[.int .i64 f, .int .i64 r] 31)) (w.heap.size + 1) f r :=
    IsBoxR.alloc (heap_alloc2_newR _ _ _) _
  exact bodyPost_ret (v := rv f r) (results_cell_row rfl _ _ (w.heap.size + 1) 31 _ (0, 0) _ rfl hbx Try.underlying31 rfl (by kernel_rfl)) rfl ⟨rfl, (((Below.refl _ _).alloc (Nat.le_refl _) _).alloc (by simp) _).alloc (by simp; omega) _⟩

/-- The first k ratios, and zeros. -/
def fillRs (st : List (Int × Int)) (k : Nat) : List (Int × Int) := st.take k ++ List.replicate (st.length - k) (0, 0)
theorem fillRs_length (st : List (Int × Int)) (k : Nat) (hk : k ≤ st.length) : (fillRs st k).length = st.length := by simp [fillRs]; omega
theorem fillRs_set (st : List (Int × Int)) (k : Nat) (hk : k < st.length) : (fillRs st k).set k (rUp st k, rDn st k) = fillRs st (k + 1) := by
  unfold fillRs
  have e : st.length - k = (st.length - (k + 1)) + 1 := by omega
  have hl : (st.take k).length = k := by simp; omega
  rw [e, List.replicate_succ, List.take_succ_eq_append_getElem hk, List.append_assoc, List.set_append_right _ _ (by omega), hl, Nat.sub_self, rUp_getElem hk]
  rfl
theorem fillRs_end (st : List (Int × Int)) : fillRs st st.length = st := by simp [fillRs]
theorem fillRs_zero (st : List (Int × Int)) : fillRs st 0 = List.replicate st.length (0, 0) := by simp [fillRs]

set_option maxHeartbeats 800000 in
theorem toRatioS_any (v : Value) (st : List (Int × Int)) (w : World) (hv : IsRs w v st) (hl : st.length ≤ 1048576) :
    Calls Try.prog 82 #[v] w fun e w' => ∃ v', e = .returned v' ∧ OwnRs w' w.heap.size v' st ∧ Below w.heap.size w w' := by
  have hv' := hv
  obtain ⟨a, cap, rfl, hc⟩ := hv
  obtain ⟨i0, hi, hz0, hz1, hz2⟩ := info_parts infoRatio
  go_enter Try.func82, Try.ntmps82
  go_wp2_with (at_make; refine wpList_make_full _ rfl _ _ 26 rfl w.heap.size 31 i0 (.agg #[.int .i64 0, .int .i64 0]) 2 Try.underlying26 hi hz0 hz1 _ _ _ _ st.length rfl rfl rfl rfl ?b2 ?b3 (Nat.le_refl _) ?_)
  case b2 => rw [hz2]; omega
  case b3 => unfold maxLen; omega
  intro w0 hown0 hgrow0
  have hb0 : Below w.heap.size w w0 := below_grownR hgrow0 (Nat.le_refl _) (fun k h => by cases h)
  have hown1 : w0.ownsRow w.heap.size 31 2 (slR w.heap.size st.length st.length) st.length (madeCells (Value.agg #[.int .i64 0, .int .i64 0]).cells (st.length * 2)).toList := hown0
  rw [toList_madeCells_ratio, ← fillRs_zero] at hown1
  have hw0 : OwnRs w0 w.heap.size (slR w.heap.size st.length st.length) (fillRs st 0) := by
    unfold OwnRs
    rw [fillRs_length _ _ (Nat.zero_le _)]
    exact hown1
  clear hown0 hown1 hgrow0
  go_wp2
  go_loopw [4] (fun i wr => ∃ k : Nat, k ≤ st.length ∧ i = .int .i64 k ∧ OwnRs wr w.heap.size (slR w.heap.size st.length st.length) (fillRs st k) ∧ Below w.heap.size w wr)
    (fun i _ => st.length - (intOf i).toNat)
  case atStart => exact ⟨0, Nat.zero_le _, rfl, hw0, hb0⟩
  case round =>
    clear hw0 hb0
    obtain ⟨k, hk, rfl, hown, hbel⟩ := hrel
    by_cases hlt : k < st.length
    · obtain ⟨b, off, rfl, c0, c1⟩ := hc k hlt
      have hbb : b < w.heap.size := World.block_lt_of_cell? w _ c0
      have d0 : wr.cell? ⟨b, off + k * 2, none⟩ = some (.int .i64 (rUp st k)) := (hbel.cell (by exact hbb)).trans c0
      have d1 : wr.cell? ⟨b, off + k * 2 + 1, none⟩ = some (.int .i64 (rDn st k)) := (hbel.cell (by exact hbb)).trans c1
      have k1 : (k : Int) < (st.length : Int) := by omega
      clear hc hv'
      go_wp2_with fail
      refine (toRatio_any _ _ _).mono ?_
      rintro e w2 ⟨rfl, hb2⟩
      have own2 := hown.below hb2
      have hbl2 : Below w.heap.size w w2 := hbel.trans (hb2.mono hbel.size)
      have hll := fillRs_length st k hk
      have e0 : ∃ u, w2.cell? ⟨w.heap.size, k * 2, none⟩ = some u := by
        refine ⟨_, (World.ownsRow.cellAt (show w2.ownsRow w.heap.size 31 2 (slR w.heap.size st.length st.length) st.length (cellsRs (fillRs st k)) by have h := own2; unfold OwnRs at h; rwa [hll] at h) (k * 2) (by omega)).trans (cellsRs_at _ k (by omega)).1⟩
      have e1 : ∃ u, w2.cell? ⟨w.heap.size, k * 2 + 1, none⟩ = some u := by
        refine ⟨_, (World.ownsRow.cellAt (show w2.ownsRow w.heap.size 31 2 (slR w.heap.size st.length st.length) st.length (cellsRs (fillRs st k)) by have h := own2; unfold OwnRs at h; rwa [hll] at h) (k * 2 + 1) (by omega)).trans (cellsRs_at _ k (by omega)).2⟩
      have f0 : ∀ j, w2.frozen? ⟨w.heap.size, j, none⟩ = false := fun j => World.ownsRow.frozenAt (show w2.ownsRow w.heap.size 31 2 (slR w.heap.size st.length st.length) st.length (cellsRs (fillRs st k)) by have h := own2; unfold OwnRs at h; rwa [hll] at h) j
      have f1 := f0 (k * 2)
      have f2 := f0 (k * 2 + 1)
      obtain ⟨u0, e0⟩ := e0
      obtain ⟨u1, e1⟩ := e1
      have hst := own2.set hll k hlt (rUp st k) (rDn st k)
      rw [fillRs_set st k hlt] at hst
      have H1 := Lib.hid hst.1
      have H2 := Lib.hid (hbl2.trans (below_grownR (B := w.heap.size) hst.2 hbl2.size (fun q hq => by cases hq; exact Nat.le_refl _)))
      clear hst f0 own2 hown hll
      go_wp2
      go_roundw
      case rel => exact ⟨k + 1, by omega, by go_num, H1.out, H2.out⟩
      case measure => simp [intOf]; omega
    · have hk2 : k = st.length := by omega
      rw [hk2, fillRs_end] at hown
      go_wp2
      go_ret
      exact ⟨_, rfl, hown, hbel⟩

theorem quietAt_load_ratio {C : World → Prop} {o : Oper} {a : Act} (x : Operand) (ho : o.op = .load 31 x) (b off : Nat) (f r : Int) (hx : a.eval x = .pointer (some ⟨b, off, none⟩))
    (hc : ∀ w, C w → w.cell? ⟨b, off, none⟩ = some (.int .i64 f) ∧ w.cell? ⟨b, off + 1, none⟩ = some (.int .i64 r)) : ∀ w, C w → o.quietAt Try.prog a C w (rv f r) := by
  intro w hw
  obtain ⟨h0, h1⟩ := hc w hw
  unfold Oper.quietAt execOp
  simp only [ho, hx, Instr.loadAt, Instr.sureAddr, Sem.run_bind, Sem.run_pure, Result.andThen_ok]
  simp [go_sem, h0, h1]


/-- Two ratios are the same. -/
def eqR (f r f' r' : Int) : Bool := decide (f = f' ∧ r = r')

set_option maxHeartbeats 400000 in
theorem eqRatio_any (f r f' r' : Int) (w : World) :
    Calls Try.prog 50 #[rv f r, rv f' r'] w fun e w' => e = .returned (.bool (eqR f r f' r')) ∧ Below w.heap.size w w' := by
  have hbl : ∀ o1 o2, Below w.heap.size w ((w.alloc o1).alloc o2) := fun o1 o2 => ((Below.refl _ _).alloc (Nat.le_refl _) _).alloc (by simp) _
  have HBL := Lib.hid hbl
  clear hbl
  by_cases h1 : f = f'
  · by_cases h2 : r = r'
    · have HV : Hid (eqR f r f' r' = true) := by show eqR f r f' r' = true; simp [eqR, h1, h2]
      have n1 : (f != f') = false := by simp [h1]
      have n2 : (r != r') = false := by simp [h2]
      clear h1 h2
      go_enter Try.func50, Try.ntmps50
      go_wp2
      go_ret
      exact ⟨ret_bool HV.out.symm, HBL.out _ _⟩
    · have HV : Hid (eqR f r f' r' = false) := by show eqR f r f' r' = false; simp [eqR, h2]
      have n1 : (f != f') = false := by simp [h1]
      have n2 : (r != r') = true := by simp [h2]
      clear h1 h2
      go_enter Try.func50, Try.ntmps50
      go_wp2
      go_ret
      exact ⟨ret_bool HV.out.symm, HBL.out _ _⟩
  · have HV : Hid (eqR f r f' r' = false) := by show eqR f r f' r' = false; simp [eqR, h1]
    have n1 : (f != f') = true := by simp [h1]
    clear h1
    go_enter Try.func50, Try.ntmps50
    go_wp2
    go_ret
    exact ⟨ret_bool HV.out.symm, HBL.out _ _⟩

theorem enter_eqRatio (args : Array Value) (w : World) : (callFunc 50 args).run Try.prog w = .ok (.enter 50 args) w := by rfl

theorem eqR_false {st su : List (Int × Int)} {k : Nat} (_h1 : k < st.length) (_h2 : k < su.length) (h : eqR (rUp st k) (rDn st k) (rUp su k) (rDn su k) = false) : st ≠ su := by
  intro e
  subst e
  simp [eqR] at h

theorem eqR_true {f r f' r' : Int} (h : eqR f r f' r' = true) : (f, r) = (f', r') := by
  have : f = f' ∧ r = r' := by simpa [eqR] using h
  rw [this.1, this.2]

theorem take_eqRs {st su : List (Int × Int)} {k : Nat} (h : k < st.length) (h' : k < su.length) (e : st.take k = su.take k) (he : (rUp st k, rDn st k) = (rUp su k, rDn su k)) : st.take (k + 1) = su.take (k + 1) := by
  rw [List.take_succ_eq_append_getElem h, List.take_succ_eq_append_getElem h', e, rUp_getElem h, rUp_getElem h', he]

set_option maxRecDepth 100000 in
set_option maxHeartbeats 1600000 in
theorem eqRatioS_any (va vb : Value) (st su : List (Int × Int)) (w : World) (ha : IsRs w va st) (hb : IsRs w vb su) (hl : st.length ≤ 9223372036854775807) :
    Calls Try.prog 83 #[va, vb] w fun e w' => e = .returned (.bool (decide (st = su))) ∧ Below w.heap.size w w' := by
  obtain ⟨a, cap, rfl, hc⟩ := ha
  obtain ⟨a2, cap2, rfl, hc2⟩ := hb
  by_cases hlen : st.length = su.length
  · have hne : ((st.length : Int) != (su.length : Int)) = false := by simp; omega
    go_enter Try.func83, Try.ntmps83
    go_wp2
    go_loopw [5] (fun i wr => ∃ k : Nat, k ≤ st.length ∧ i = .int .i64 k ∧ st.take k = su.take k ∧ Below w.heap.size w wr) (fun i _ => st.length - (intOf i).toNat)
    case atStart => exact ⟨0, Nat.zero_le _, rfl, rfl, Below.refl _ _⟩
    case round =>
      obtain ⟨k, hk, rfl, htk, hbel⟩ := hrel
      have HT := Lib.hid htk
      have HL := Lib.hid hlen
      clear htk hne
      by_cases hlt : k < st.length
      · have hlt2 : k < su.length := by omega
        obtain ⟨b, off, rfl, c0, c1⟩ := hc k hlt
        obtain ⟨b2, off2, rfl, e0, e1⟩ := hc2 k hlt2
        have hbb : b < w.heap.size := World.block_lt_of_cell? w _ c0
        have hbb2 : b2 < w.heap.size := World.block_lt_of_cell? w _ e0
        have hq0 : ∀ w', Below wr.heap.size wr w' → w'.cell? ⟨b, off + k * 2, none⟩ = some (.int .i64 (rUp st k)) ∧ w'.cell? ⟨b, off + k * 2 + 1, none⟩ = some (.int .i64 (rDn st k)) := fun w' hw' =>
          ⟨((hbel.trans (hw'.mono hbel.size)).cell (by exact hbb)).trans c0, ((hbel.trans (hw'.mono hbel.size)).cell (by exact hbb)).trans c1⟩
        have hq2 : ∀ w', Below wr.heap.size wr w' → w'.cell? ⟨b2, off2 + k * 2, none⟩ = some (.int .i64 (rUp su k)) ∧ w'.cell? ⟨b2, off2 + k * 2 + 1, none⟩ = some (.int .i64 (rDn su k)) := fun w' hw' =>
          ⟨((hbel.trans (hw'.mono hbel.size)).cell (by exact hbb2)).trans e0, ((hbel.trans (hw'.mono hbel.size)).cell (by exact hbb2)).trans e1⟩
        have HQ0 := Lib.hid hq0
        have HQ2 := Lib.hid hq2
        have k1 : (k : Int) < (st.length : Int) := by omega
        have k2 : (k : Int) < (su.length : Int) := by omega
        clear hq0 hq2 hc hc2 hlen
        cases hq : eqR (rUp st k) (rDn st k) (rUp su k) (rDn su k)
        · have HE := Lib.hid hq
          clear hq
          go_wp2
          refine wp_region_quiet_below (by kernel_rfl) (by kernel_rfl) ?_
          go_simp
          repeat (first
            | (refine wpQuiet_val (rv (rUp st k) (rDn st k)) (by kernel_rfl) (quietAt_load_ratio _ rfl b (off + k * 2) _ _ rfl HQ0.out) ?_; go_simp)
            | (refine wpQuiet_val (rv (rUp su k) (rDn su k)) (by kernel_rfl) (quietAt_load_ratio _ rfl b2 (off2 + k * 2) _ _ rfl HQ2.out) ?_; go_simp)
            | (refine wpQuiet_val (.bool false) (by kernel_rfl) (quietAt_callf _ enter_eqRatio _ _ rfl #[rv (rUp st k) (rDn st k), rv (rUp su k) (rDn su k)] (by simp [go_sem]) (fun w' hw' => (eqRatio_any _ _ _ _ _).mono (fun e w'' h => ⟨h.1.trans (ret_bool HE.out), hw'.trans (h.2.mono hw'.size)⟩))) ?_; go_simp)
            | go_big_quiet_skip | (go_big_quiet_want; go_big_quiet_op; first | go_big_quiet_on | (refine ⟨_, fun _ _ => rfl, ?_⟩; go_big_quiet_on)))
          refine wpQuiet_nil ?_
          intro w' hw'
          go_wp2
          go_ret
          exact ⟨ret_bool (decide_eq_false (eqR_false hlt hlt2 HE.out)).symm, hbel.trans (hw'.mono hbel.size)⟩
        · have HE := Lib.hid hq
          clear hq
          go_wp2
          refine wp_region_quiet_below (by kernel_rfl) (by kernel_rfl) ?_
          go_simp
          repeat (first
            | (refine wpQuiet_val (rv (rUp st k) (rDn st k)) (by kernel_rfl) (quietAt_load_ratio _ rfl b (off + k * 2) _ _ rfl HQ0.out) ?_; go_simp)
            | (refine wpQuiet_val (rv (rUp su k) (rDn su k)) (by kernel_rfl) (quietAt_load_ratio _ rfl b2 (off2 + k * 2) _ _ rfl HQ2.out) ?_; go_simp)
            | (refine wpQuiet_val (.bool true) (by kernel_rfl) (quietAt_callf _ enter_eqRatio _ _ rfl #[rv (rUp st k) (rDn st k), rv (rUp su k) (rDn su k)] (by simp [go_sem]) (fun w' hw' => (eqRatio_any _ _ _ _ _).mono (fun e w'' h => ⟨h.1.trans (ret_bool HE.out), hw'.trans (h.2.mono hw'.size)⟩))) ?_; go_simp)
            | go_big_quiet_skip | (go_big_quiet_want; go_big_quiet_op; first | go_big_quiet_on | (refine ⟨_, fun _ _ => rfl, ?_⟩; go_big_quiet_on)))
          refine wpQuiet_nil ?_
          intro w' hw'
          go_wp2
          go_roundw
          case rel => exact ⟨k + 1, by omega, by go_num, take_eqRs hlt hlt2 HT.out (eqR_true HE.out), hbel.trans (hw'.mono hbel.size)⟩
          case measure => simp [intOf]; omega
      · clear hlen
        go_wp2
        go_ret
        refine ⟨ret_bool ?_, hbel⟩
        symm
        rw [decide_eq_true_iff]
        have := HT.out
        rwa [List.take_of_length_le (by omega), List.take_of_length_le (by rw [← HL.out]; omega)] at this
  · have hne : ((st.length : Int) != (su.length : Int)) = true := by simp; omega
    go_enter Try.func83, Try.ntmps83
    go_wp2
    go_ret
    refine ⟨ret_bool ?_, Below.refl _ _⟩
    symm
    rw [decide_eq_false_iff_not]
    intro h
    exact hlen (by rw [h])

set_option maxHeartbeats 400000 in
theorem szRatioS_fit (a : Option Addr) (n cap : Nat) (l : Int) (w : World) (h0 : 0 ≤ l ∧ l ≤ 1048576) (hn : (n : Int) ≤ l) :
    Calls Try.prog 81 #[.slice a n cap, .int .i64 l] w fun e w' => e = .returned (.int .i64 (l - n)) ∧ w = w' := by
  have h1 : ¬ (l - n < 0) := by omega
  go_enter Try.func81, Try.ntmps81
  go_wp2
  go_ret
  exact ⟨rfl, rfl⟩

set_option maxHeartbeats 400000 in
theorem szRatioS_over (a : Option Addr) (n cap : Nat) (l : Int) (w : World) (h0 : 0 ≤ l ∧ l ≤ 1048576) (hm : n ≤ 9223372036854775807) (hn : l < (n : Int)) :
    Calls Try.prog 81 #[.slice a n cap, .int .i64 l] w fun e w' => e = .returned (.int .i64 (-1)) ∧ w = w' := by
  have h1 : l - n < 0 := by omega
  go_enter Try.func81, Try.ntmps81
  go_wp2
  go_ret
  exact ⟨rfl, rfl⟩


/-- The slice value that came in reads as the ratios st, their number and their numbers such as Go knows. -/
def IsRowRs (w : World) (a : Option Addr) (len cap : Nat) (st : List (Int × Int)) : Prop :=
  len = st.length ∧ IsRs w (.slice a st.length cap) st ∧ st.length ≤ 9223372036854775807 ∧ FitsRs st

/-- One struct of two numbers, read. -/
theorem pair_of {H : Type} {enc : TypeId × Value → H} {w : World} {base fuel : Nat} {spare : Nat → Bool} {held : Bool} {e : TypeId} {f0 f1 : Field} {cs : List Value} {x : DataW H × List MemPlace} (he : Try.prog.underlying e = some (.struct #[f0, f1]))
    (h0 : Try.prog.underlying f0.type = some (.int .i64)) (h1 : Try.prog.underlying f1.type = some (.int .i64)) (hone : Go.Deep.oneCellFields Try.prog #[f0, f1] = true) (hl : cs.length = 2) (h : DataW.trod enc Try.prog w base spare held fuel e cs = some x) :
    ∃ p q : Int, cs = [.int .i64 p, .int .i64 q] ∧ (-9223372036854775808 ≤ p ∧ p ≤ 9223372036854775807) ∧ (-9223372036854775808 ≤ q ∧ q ≤ 9223372036854775807) := by
  match cs, hl with
  | [c0, c1], _ =>
    obtain ⟨ys, n, _, _, _, hyl, hf⟩ := DataW.trod_struct he h
    match ys, hyl with
    | [y0, y1], _ =>
      obtain ⟨o0, k0⟩ := Go.Deep.hone_of hone 0 f0 rfl
      obtain ⟨o1, k1⟩ := Go.Deep.hone_of hone 1 f1 rfl
      have t0 := hf 0 f0 rfl
      have t1 := hf 1 f1 rfl
      rw [o0, k0] at t0
      rw [o1, k1] at t1
      obtain ⟨p, hp, _, wp⟩ := DataW.trod_int h0 (x := y0) (by simpa using t0)
      obtain ⟨q, hq, _, wq⟩ := DataW.trod_int h1 (x := y1) (by simpa using t1)
      simp at hp hq
      exact ⟨p, q, by rw [hp, hq], bounds_i64 wp, bounds_i64 wq⟩

theorem rowRs_of {H : Type} {enc : TypeId × Value → H} {W : World} {base : Nat} {held : Bool} {a : Option Addr} {len cap fuel : Nat} {t e : TypeId} {f0 f1 : Field} {x : DataW H × List MemPlace} (ht : Try.prog.underlying t = some (.slice e)) (he : Try.prog.underlying e = some (.struct #[f0, f1]))
    (h0 : Try.prog.underlying f0.type = some (.int .i64)) (h1 : Try.prog.underlying f1.type = some (.int .i64)) (hone : Go.Deep.oneCellFields Try.prog #[f0, f1] = true) (hC : Try.prog.cellsOf e = 2)
    (h : DataW.trod enc Try.prog W base (fun _ => true) held fuel t (Value.slice a len cap).cells.toList = some x) : ∃ st, IsRowRs W a len cap st := by
  rcases Go.Deep.open_slice ht h with ⟨hcs, _⟩ | ⟨y, l, c, m, n, D, Pl, hcs, _, hlm, hm, hmm, _, hi⟩
  · simp [Value.cells] at hcs
    obtain ⟨rfl, rfl, rfl⟩ := hcs
    exact ⟨[], rfl, ⟨none, 0, rfl, fun i hi => by simp at hi⟩, by simp, fun i => by simp [rUp, rDn]⟩
  · simp [Value.cells] at hcs
    obtain ⟨rfl, rfl, rfl⟩ := hcs
    simp at hmm
    unfold maxLen at hm
    have hel : ∀ i, ∃ p : Int × Int, i < len → (W.cell? (y.add (i * 2)) = some (.int .i64 p.1) ∧ W.cell? (y.add (i * 2 + 1)) = some (.int .i64 p.2)) ∧ (-9223372036854775808 ≤ p.1 ∧ p.1 ≤ 9223372036854775807) ∧ (-9223372036854775808 ≤ p.2 ∧ p.2 ≤ 9223372036854775807) := by
      intro i
      by_cases hil : i < len
      · obtain ⟨cs', hc, ht'⟩ := hi i (by omega)
        rw [hC] at hc
        obtain ⟨_, hcl, hat⟩ := World.cells?_some hc
        obtain ⟨p, q, rfl, bp, bq⟩ := pair_of he h0 h1 hone hcl ht'
        refine ⟨(p, q), fun _ => ⟨⟨?_, ?_⟩, bp, bq⟩⟩
        · have := hat 0 (by omega)
          rw [Go.Deep.add_add] at this
          simpa using this
        · have := hat 1 (by omega)
          rw [Go.Deep.add_add] at this
          simpa using this
      · exact ⟨(0, 0), fun h => absurd h hil⟩
    have hS : ∃ F : Nat → Int × Int, ∀ i, i < len → (W.cell? (y.add (i * 2)) = some (.int .i64 (F i).1) ∧ W.cell? (y.add (i * 2 + 1)) = some (.int .i64 (F i).2)) ∧ (-9223372036854775808 ≤ (F i).1 ∧ (F i).1 ≤ 9223372036854775807) ∧ (-9223372036854775808 ≤ (F i).2 ∧ (F i).2 ≤ 9223372036854775807) :=
      ⟨fun i => (hel i).choose, fun i => (hel i).choose_spec⟩
    obtain ⟨F, hF⟩ := hS
    have hlen : ((List.range len).map F).length = len := by simp
    have hfr : ∀ i, i < len → rUp ((List.range len).map F) i = (F i).1 ∧ rDn ((List.range len).map F) i = (F i).2 := by
      intro i hi
      simp [rUp, rDn, List.getD, hi]
    refine ⟨(List.range len).map F, hlen.symm, ⟨some y, cap, rfl, fun i hj => ?_⟩, by rw [hlen]; omega, fun i => ?_⟩
    · rw [hlen] at hj
      obtain ⟨⟨c0, c1⟩, _⟩ := hF i hj
      obtain ⟨b, off, rfl⟩ := plain_of_cellR (by simpa using (hF 0 (by omega)).1.1)
      rw [(hfr i hj).1, (hfr i hj).2]
      rw [Go.WideShapes.add_plain] at c0 c1
      exact ⟨b, off, rfl, c0, by rw [Nat.add_assoc]; exact c1⟩
    · by_cases hj : i < len
      · obtain ⟨_, h2⟩ := hF i hj
        rw [(hfr i hj).1, (hfr i hj).2]
        exact h2
      · have : rUp ((List.range len).map F) i = 0 ∧ rDn ((List.range len).map F) i = 0 := by simp [rUp, rDn, List.getD, hj]
        rw [this.1, this.2]
        omega

theorem isRowRs_of {H : Type} {enc : TypeId × Value → H} {W : World} {base : Nat} {held : Bool} {a : Option Addr} {len cap fuel : Nat} {x : DataW H × List MemPlace}
    (h : DataW.trod enc Try.prog W base (fun _ => true) held fuel 82 (Value.slice a len cap).cells.toList = some x) : ∃ st, IsRowRs W a len cap st :=
  rowRs_of Try.underlying82 Try.underlying58 Try.underlying3 Try.underlying3 (by kernel_rfl) (by kernel_rfl) h


end Go.Proofs.Ytiffjeclpgcabaa
