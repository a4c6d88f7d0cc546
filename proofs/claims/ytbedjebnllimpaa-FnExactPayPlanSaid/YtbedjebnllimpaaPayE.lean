/- Payments: compared by the laws; what the frame of a proof tells of a slice of payments that came in. -/
import Derived.Test.YtbedjebnllimpaaPayL
import Derived.Test.YtbedjebnllimpaaQK
import Derived.Deep.Slices
import Derived.Deep.Fields
import Derived.ChangeSame
import Derived.ProofKit
import Derived.OpenShut
namespace Go.Proofs.Ytbedjebnllimpaa
open Go.RowKit Go.ChangeShapes Go.WideShapes

set_option maxHeartbeats 400000 in
theorem eqPay_same (f t a : Int) (w : World) :
    Calls Try.prog 94 #[pv f t a, pv f t a] w fun e w' => e = .returned (.bool true) ∧ Below w.heap.size w w' := by
  have HBL : Hid (∀ o1 o2, Below w.heap.size w ((w.alloc o1).alloc o2)) := fun o1 o2 => ((Below.refl _ _).alloc (Nat.le_refl _) _).alloc (by simp) _
  have n1 : (f != f) = false := by simp
  have n2 : (t != t) = false := by simp
  have n3 : (a != a) = false := by simp
  go_enter Try.func94, Try.ntmps94
  go_wp2
  go_ret
  exact ⟨rfl, HBL.out _ _⟩

theorem enter_eqPay (args : Array Value) (w : World) : (callFunc 94 args).run Try.prog w = .ok (.enter 94 args) w := by rfl

theorem quietAt_load_pay {C : World → Prop} {o : Oper} {a : Act} (x : Operand) (ho : o.op = .load 42 x) (b off : Nat) (f t am : Int) (hx : a.eval x = .pointer (some ⟨b, off, none⟩))
    (hc : ∀ w, C w → w.cell? ⟨b, off, none⟩ = some (.int .i64 f) ∧ w.cell? ⟨b, off + 1, none⟩ = some (.int .i64 t) ∧ w.cell? ⟨b, off + 2, none⟩ = some (.int .i64 am)) : ∀ w, C w → o.quietAt Try.prog a C w (pv f t am) := by
  intro w hw
  obtain ⟨h0, h1, h2⟩ := hc w hw
  unfold Oper.quietAt execOp
  simp only [ho, hx, Instr.loadAt, Instr.sureAddr, Sem.run_bind, Sem.run_pure, Result.andThen_ok]
  simp [go_sem, h0, h1, h2]

set_option maxRecDepth 100000 in
set_option maxHeartbeats 1600000 in
theorem eqPayS_same (va vb : Value) (st : List (Int × Int × Int)) (w : World) (ha : IsPays w va st) (hb : IsPays w vb st) (hl : st.length ≤ 9223372036854775807) :
    Calls Try.prog 59 #[va, vb] w fun e w' => e = .returned (.bool true) ∧ Below w.heap.size w w' := by
  obtain ⟨a, cap, rfl, hc⟩ := ha
  obtain ⟨a2, cap2, rfl, hc2⟩ := hb
  go_enter Try.func59, Try.ntmps59
  go_wp2
  go_loopw [5] (fun i wr => ∃ k : Nat, k ≤ st.length ∧ i = .int .i64 k ∧ Below w.heap.size w wr) (fun i _ => st.length - (intOf i).toNat)
  case atStart => exact ⟨0, Nat.zero_le _, rfl, Below.refl _ _⟩
  case round =>
    obtain ⟨k, hk, rfl, hbel⟩ := hrel
    by_cases hlt : k < st.length
    · obtain ⟨b, off, rfl, c0, c1, c2⟩ := hc k hlt
      obtain ⟨b2, off2, rfl, e0, e1, e2⟩ := hc2 k hlt
      have hbb : b < w.heap.size := World.block_lt_of_cell? w _ c0
      have hbb2 : b2 < w.heap.size := World.block_lt_of_cell? w _ e0
      have HQ0 : Hid (∀ w', Below wr.heap.size wr w' → w'.cell? ⟨b, off + k * 3, none⟩ = some (.int .i64 (pF st k)) ∧ w'.cell? ⟨b, off + k * 3 + 1, none⟩ = some (.int .i64 (pT st k)) ∧ w'.cell? ⟨b, off + k * 3 + 2, none⟩ = some (.int .i64 (pA st k))) := fun w' hw' =>
        ⟨((hbel.trans (hw'.mono hbel.size)).cell (by exact hbb)).trans c0, ((hbel.trans (hw'.mono hbel.size)).cell (by exact hbb)).trans c1, ((hbel.trans (hw'.mono hbel.size)).cell (by exact hbb)).trans c2⟩
      have HQ2 : Hid (∀ w', Below wr.heap.size wr w' → w'.cell? ⟨b2, off2 + k * 3, none⟩ = some (.int .i64 (pF st k)) ∧ w'.cell? ⟨b2, off2 + k * 3 + 1, none⟩ = some (.int .i64 (pT st k)) ∧ w'.cell? ⟨b2, off2 + k * 3 + 2, none⟩ = some (.int .i64 (pA st k))) := fun w' hw' =>
        ⟨((hbel.trans (hw'.mono hbel.size)).cell (by exact hbb2)).trans e0, ((hbel.trans (hw'.mono hbel.size)).cell (by exact hbb2)).trans e1, ((hbel.trans (hw'.mono hbel.size)).cell (by exact hbb2)).trans e2⟩
      have k1 : (k : Int) < (st.length : Int) := by omega
      clear hc hc2 c0 c1 c2 e0 e1 e2
      go_wp2
      refine wp_region_quiet_below (by kernel_rfl) (by kernel_rfl) ?_
      go_simp
      repeat (first
        | (refine wpQuiet_val (pv (pF st k) (pT st k) (pA st k)) (by kernel_rfl) (quietAt_load_pay _ rfl b (off + k * 3) _ _ _ rfl HQ0.out) ?_; go_simp)
        | (refine wpQuiet_val (pv (pF st k) (pT st k) (pA st k)) (by kernel_rfl) (quietAt_load_pay _ rfl b2 (off2 + k * 3) _ _ _ rfl HQ2.out) ?_; go_simp)
        | (refine wpQuiet_val (.bool true) (by kernel_rfl) (quietAt_callf _ enter_eqPay _ _ rfl #[pv (pF st k) (pT st k) (pA st k), pv (pF st k) (pT st k) (pA st k)] (by simp [go_sem]) (fun w' hw' => (eqPay_same _ _ _ _).mono (fun e w'' h => ⟨h.1, hw'.trans (h.2.mono hw'.size)⟩))) ?_; go_simp)
        | go_big_quiet_skip | (go_big_quiet_want; go_big_quiet_op; first | go_big_quiet_on | (refine ⟨_, fun _ _ => rfl, ?_⟩; go_big_quiet_on)))
      refine wpQuiet_nil ?_
      intro w' hw'
      go_wp2
      go_roundw
      case rel => exact ⟨k + 1, by omega, by go_num, hbel.trans (hw'.mono hbel.size)⟩
      case measure => simp [intOf]; omega
    · clear hc hc2
      go_wp2
      go_ret
      exact ⟨rfl, hbel⟩

set_option maxHeartbeats 400000 in
theorem szPayS_any (a : Option Addr) (n cap : Nat) (l : Int) (w : World) (h0 : 0 ≤ l ∧ l ≤ 1048576) (hm : n ≤ 9223372036854775807) :
    Calls Try.prog 62 #[.slice a n cap, .int .i64 l] w fun e w' => ∃ r : Int, e = .returned (.int .i64 r) ∧ (r = -1 ∨ (0 ≤ r ∧ r = l - n)) ∧ w = w' := by
  by_cases hn : l < (n : Int)
  · have h1 : l - n < 0 := by omega
    go_enter Try.func62, Try.ntmps62
    go_wp2
    go_ret
    exact ⟨_, rfl, .inl rfl, rfl⟩
  · have h1 : ¬ (l - n < 0) := by omega
    go_enter Try.func62, Try.ntmps62
    go_wp2
    go_ret
    exact ⟨_, rfl, .inr ⟨by omega, rfl⟩, rfl⟩

/-- The slice value that came in reads as the payments st, their number and their numbers such as Go knows. -/
def IsRowP (w : World) (a : Option Addr) (len cap : Nat) (st : List (Int × Int × Int)) : Prop :=
  len = st.length ∧ IsPays w (.slice a st.length cap) st ∧ st.length ≤ 9223372036854775807 ∧ FitsP st

theorem plainAddr_of_cellP {w : World} {a : Addr} {u : Value} (h : w.cell? (a.add 0) = some u) : ∃ b off, a = ⟨b, off, none⟩ := by
  obtain ⟨b, off, spot⟩ := a
  have hspot : spot = none := by simpa [Addr.add] using World.cell?_spot h
  subst hspot
  exact ⟨b, off, rfl⟩

/-- One struct of three numbers, read. -/
theorem triple_of {H : Type} {enc : TypeId × Value → H} {w : World} {base fuel : Nat} {spare : Nat → Bool} {held : Bool} {e : TypeId} {f0 f1 f2 : Field} {cs : List Value} {x : DataW H × List MemPlace} (he : Try.prog.underlying e = some (.struct #[f0, f1, f2]))
    (h0 : Try.prog.underlying f0.type = some (.int .i64)) (h1 : Try.prog.underlying f1.type = some (.int .i64)) (h2 : Try.prog.underlying f2.type = some (.int .i64)) (hone : Go.Deep.oneCellFields Try.prog #[f0, f1, f2] = true) (hl : cs.length = 3) (h : DataW.trod enc Try.prog w base spare held fuel e cs = some x) :
    ∃ p q r : Int, cs = [.int .i64 p, .int .i64 q, .int .i64 r] ∧ (-9223372036854775808 ≤ p ∧ p ≤ 9223372036854775807) ∧ (-9223372036854775808 ≤ q ∧ q ≤ 9223372036854775807) ∧ (-9223372036854775808 ≤ r ∧ r ≤ 9223372036854775807) := by
  match cs, hl with
  | [c0, c1, c2], _ =>
    obtain ⟨ys, n, _, _, _, hyl, hf⟩ := DataW.trod_struct he h
    match ys, hyl with
    | [y0, y1, y2], _ =>
      obtain ⟨o0, k0⟩ := Go.Deep.hone_of hone 0 f0 rfl
      obtain ⟨o1, k1⟩ := Go.Deep.hone_of hone 1 f1 rfl
      obtain ⟨o2, k2⟩ := Go.Deep.hone_of hone 2 f2 rfl
      have t0 := hf 0 f0 rfl
      have t1 := hf 1 f1 rfl
      have t2 := hf 2 f2 rfl
      rw [o0, k0] at t0
      rw [o1, k1] at t1
      rw [o2, k2] at t2
      obtain ⟨p, hp, _, wp⟩ := DataW.trod_int h0 (x := y0) (by simpa using t0)
      obtain ⟨q, hq, _, wq⟩ := DataW.trod_int h1 (x := y1) (by simpa using t1)
      obtain ⟨r, hr, _, wr⟩ := DataW.trod_int h2 (x := y2) (by simpa using t2)
      simp at hp hq hr
      exact ⟨p, q, r, by rw [hp, hq, hr], bounds_i64 wp, bounds_i64 wq, bounds_i64 wr⟩

/-- A number that an int may be. -/
def B64 (x : Int) : Prop := -9223372036854775808 ≤ x ∧ x ≤ 9223372036854775807

theorem rowP_of {H : Type} {enc : TypeId × Value → H} {W : World} {base : Nat} {held : Bool} {a : Option Addr} {len cap fuel : Nat} {t e : TypeId} {f0 f1 f2 : Field} {x : DataW H × List MemPlace} (ht : Try.prog.underlying t = some (.slice e)) (he : Try.prog.underlying e = some (.struct #[f0, f1, f2]))
    (h0 : Try.prog.underlying f0.type = some (.int .i64)) (h1 : Try.prog.underlying f1.type = some (.int .i64)) (h2 : Try.prog.underlying f2.type = some (.int .i64)) (hone : Go.Deep.oneCellFields Try.prog #[f0, f1, f2] = true) (hC : Try.prog.cellsOf e = 3)
    (h : DataW.trod enc Try.prog W base (fun _ => true) held fuel t (Value.slice a len cap).cells.toList = some x) : ∃ st, IsRowP W a len cap st := by
  rcases Go.Deep.open_slice ht h with ⟨hcs, _⟩ | ⟨y, l, c, m, n, D, Pl, hcs, _, hlm, hm, hmm, _, hi⟩
  · simp [Value.cells] at hcs
    obtain ⟨rfl, rfl, rfl⟩ := hcs
    exact ⟨[], rfl, ⟨none, 0, rfl, fun i hi => by simp at hi⟩, by simp, fun i => by simp [pF, pT, pA]⟩
  · simp [Value.cells] at hcs
    obtain ⟨rfl, rfl, rfl⟩ := hcs
    simp at hmm
    unfold maxLen at hm
    have hel : ∀ i, ∃ p : Int × Int × Int, i < len → (W.cell? (y.add (i * 3)) = some (.int .i64 p.1) ∧ W.cell? (y.add (i * 3 + 1)) = some (.int .i64 p.2.1) ∧ W.cell? (y.add (i * 3 + 2)) = some (.int .i64 p.2.2)) ∧ B64 p.1 ∧ B64 p.2.1 ∧ B64 p.2.2 := by
      intro i
      by_cases hil : i < len
      · obtain ⟨cs', hc, ht'⟩ := hi i (by omega)
        rw [hC] at hc
        obtain ⟨_, hcl, hat⟩ := World.cells?_some hc
        obtain ⟨p, q, r, rfl, bp, bq, br⟩ := triple_of he h0 h1 h2 hone hcl ht'
        refine ⟨(p, q, r), fun _ => ⟨⟨?_, ?_, ?_⟩, bp, bq, br⟩⟩
        · have := hat 0 (by omega)
          rw [Go.Deep.add_add] at this
          simpa using this
        · have := hat 1 (by omega)
          rw [Go.Deep.add_add] at this
          simpa using this
        · have := hat 2 (by omega)
          rw [Go.Deep.add_add] at this
          simpa using this
      · exact ⟨(0, 0, 0), fun h => absurd h hil⟩
    have hS : ∃ F : Nat → Int × Int × Int, ∀ i, i < len → (W.cell? (y.add (i * 3)) = some (.int .i64 (F i).1) ∧ W.cell? (y.add (i * 3 + 1)) = some (.int .i64 (F i).2.1) ∧ W.cell? (y.add (i * 3 + 2)) = some (.int .i64 (F i).2.2)) ∧ B64 (F i).1 ∧ B64 (F i).2.1 ∧ B64 (F i).2.2 :=
      ⟨fun i => (hel i).choose, fun i => (hel i).choose_spec⟩
    obtain ⟨F, hF⟩ := hS
    have hlen : ((List.range len).map F).length = len := by simp
    have hfr : ∀ i, i < len → pF ((List.range len).map F) i = (F i).1 ∧ pT ((List.range len).map F) i = (F i).2.1 ∧ pA ((List.range len).map F) i = (F i).2.2 := by
      intro i hi
      simp [pF, pT, pA, List.getD, hi]
    refine ⟨(List.range len).map F, hlen.symm, ⟨some y, cap, rfl, fun i hj => ?_⟩, by rw [hlen]; omega, fun i => ?_⟩
    · rw [hlen] at hj
      obtain ⟨⟨c0, c1, c2⟩, _⟩ := hF i hj
      obtain ⟨b, off, rfl⟩ := plainAddr_of_cellP (by simpa using (hF 0 (by omega)).1.1)
      rw [(hfr i hj).1, (hfr i hj).2.1, (hfr i hj).2.2]
      rw [Go.WideShapes.add_plain] at c0 c1 c2
      exact ⟨b, off, rfl, c0, by rw [Nat.add_assoc]; exact c1, by rw [Nat.add_assoc]; exact c2⟩
    · by_cases hj : i < len
      · obtain ⟨_, h3⟩ := hF i hj
        rw [(hfr i hj).1, (hfr i hj).2.1, (hfr i hj).2.2]
        exact h3
      · have : pF ((List.range len).map F) i = 0 ∧ pT ((List.range len).map F) i = 0 ∧ pA ((List.range len).map F) i = 0 := by simp [pF, pT, pA, List.getD, hj]
        rw [this.1, this.2.1, this.2.2]
        omega

theorem isRowP_of {H : Type} {enc : TypeId × Value → H} {W : World} {base : Nat} {held : Bool} {a : Option Addr} {len cap fuel : Nat} {x : DataW H × List MemPlace}
    (h : DataW.trod enc Try.prog W base (fun _ => true) held fuel 48 (Value.slice a len cap).cells.toList = some x) : ∃ st, IsRowP W a len cap st :=
  rowP_of Try.underlying48 Try.underlying71 Try.underlying3 Try.underlying3 Try.underlying3 (by kernel_rfl) (by kernel_rfl) h

end Go.Proofs.Ytbedjebnllimpaa
