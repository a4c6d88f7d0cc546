/- Slices of steps compared. -/
import Derived.Test.YtmeejaafbbabaaaOwnS
namespace Go.Proofs.Ytmeejaafbbabaaa
open Go.RowKit

/-- Two steps are the same. -/
def eqB (f r f' r' : Int) : Bool := decide (f = f' ∧ r = r')

set_option maxHeartbeats 400000 in
theorem eqStep_any (f r f' r' : Int) (w : World) :
    Calls Try.prog 65 #[sv f r, sv f' r'] w fun e w' => e = .returned (.bool (eqB f r f' r')) ∧ Below w.heap.size w w' := by
  have hbl : ∀ o1 o2, Below w.heap.size w ((w.alloc o1).alloc o2) := fun o1 o2 => ((Below.refl _ _).alloc (Nat.le_refl _) _).alloc (by simp) _
  have HBL := Lib.hid hbl
  clear hbl
  by_cases h1 : f = f'
  · by_cases h2 : r = r'
    · have HV : Hid (eqB f r f' r' = true) := by show eqB f r f' r' = true; simp [eqB, h1, h2]
      have n1 : (f != f') = false := by simp [h1]
      have n2 : (r != r') = false := by simp [h2]
      clear h1 h2
      go_enter Try.func65, Try.ntmps65
      go_wp2
      go_ret
      exact ⟨ret_bool HV.out.symm, HBL.out _ _⟩
    · have HV : Hid (eqB f r f' r' = false) := by show eqB f r f' r' = false; simp [eqB, h2]
      have n1 : (f != f') = false := by simp [h1]
      have n2 : (r != r') = true := by simp [h2]
      clear h1 h2
      go_enter Try.func65, Try.ntmps65
      go_wp2
      go_ret
      exact ⟨ret_bool HV.out.symm, HBL.out _ _⟩
  · have HV : Hid (eqB f r f' r' = false) := by show eqB f r f' r' = false; simp [eqB, h1]
    have n1 : (f != f') = true := by simp [h1]
    clear h1
    go_enter Try.func65, Try.ntmps65
    go_wp2
    go_ret
    exact ⟨ret_bool HV.out.symm, HBL.out _ _⟩

theorem enter_eqStep (args : Array Value) (w : World) : (callFunc 65 args).run Try.prog w = .ok (.enter 65 args) w := by rfl

theorem eqB_false {st su : List (Int × Int)} {k : Nat} (_h1 : k < st.length) (_h2 : k < su.length) (h : eqB (frm st k) (rat st k) (frm su k) (rat su k) = false) : st ≠ su := by
  intro e
  subst e
  simp [eqB] at h

theorem eqB_true {f r f' r' : Int} (h : eqB f r f' r' = true) : (f, r) = (f', r') := by
  have : f = f' ∧ r = r' := by simpa [eqB] using h
  rw [this.1, this.2]

theorem take_eqS {st su : List (Int × Int)} {k : Nat} (h : k < st.length) (h' : k < su.length) (e : st.take k = su.take k) (he : (frm st k, rat st k) = (frm su k, rat su k)) : st.take (k + 1) = su.take (k + 1) := by
  rw [List.take_succ_eq_append_getElem h, List.take_succ_eq_append_getElem h', e, frm_getElem h, frm_getElem h', he]

set_option maxHeartbeats 800000 in
theorem eqStepS_any (va vb : Value) (st su : List (Int × Int)) (w : World) (ha : IsSteps w va st) (hb : IsSteps w vb su) (hl : st.length ≤ 9223372036854775807) :
    Calls Try.prog 46 #[va, vb] w fun e w' => e = .returned (.bool (decide (st = su))) ∧ Below w.heap.size w w' := by
  obtain ⟨a, cap, rfl, hc⟩ := ha
  obtain ⟨a2, cap2, rfl, hc2⟩ := hb
  by_cases hlen : st.length = su.length
  · have hne : ((st.length : Int) != (su.length : Int)) = false := by simp; omega
    go_enter Try.func46, Try.ntmps46
    go_wp2
    go_loopw [5] (fun i wr => ∃ k : Nat, k ≤ st.length ∧ i = .int .i64 k ∧ st.take k = su.take k ∧ Below w.heap.size w wr) (fun i _ => st.length - (intOf i).toNat)
    case atStart => exact ⟨0, Nat.zero_le _, rfl, rfl, Below.refl _ _⟩
    case round =>
      obtain ⟨k, hk, rfl, htk, hbel⟩ := hrel
      have HT := Lib.hid htk
      have HL := Lib.hid hlen
      clear htk hne
      by_cases hlt : k < st.length
      · have hlt2 : k < su.length := by omega
        obtain ⟨b, off, rfl, c0, c1⟩ := hc k hlt
        obtain ⟨b2, off2, rfl, e0, e1⟩ := hc2 k hlt2
        have hbb : b < w.heap.size := World.block_lt_of_cell? w _ c0
        have hbb2 : b2 < w.heap.size := World.block_lt_of_cell? w _ e0
        have hq0 : ∀ w', Below wr.heap.size wr w' → w'.cell? ⟨b, off + k * 2, none⟩ = some (.int .i64 (frm st k)) ∧ w'.cell? ⟨b, off + k * 2 + 1, none⟩ = some (.int .i64 (rat st k)) := fun w' hw' =>
          ⟨((hbel.trans (hw'.mono hbel.size)).cell (by exact hbb)).trans c0, ((hbel.trans (hw'.mono hbel.size)).cell (by exact hbb)).trans c1⟩
        have hq2 : ∀ w', Below wr.heap.size wr w' → w'.cell? ⟨b2, off2 + k * 2, none⟩ = some (.int .i64 (frm su k)) ∧ w'.cell? ⟨b2, off2 + k * 2 + 1, none⟩ = some (.int .i64 (rat su k)) := fun w' hw' =>
          ⟨((hbel.trans (hw'.mono hbel.size)).cell (by exact hbb2)).trans e0, ((hbel.trans (hw'.mono hbel.size)).cell (by exact hbb2)).trans e1⟩
        have HQ0 := Lib.hid hq0
        have HQ2 := Lib.hid hq2
        have k1 : (k : Int) < (st.length : Int) := by omega
        have k2 : (k : Int) < (su.length : Int) := by omega
        clear hq0 hq2 hc hc2 hlen
        cases hq : eqB (frm st k) (rat st k) (frm su k) (rat su k)
        · have HE := Lib.hid hq
          clear hq
          go_wp2
          refine wp_region_quiet_below (by kernel_rfl) (by kernel_rfl) ?_
          go_simp
          repeat (first
            | (refine wpQuiet_val (sv (frm st k) (rat st k)) (by kernel_rfl) (quietAt_load_step _ rfl b (off + k * 2) _ _ rfl HQ0.out) ?_; go_simp)
            | (refine wpQuiet_val (sv (frm su k) (rat su k)) (by kernel_rfl) (quietAt_load_step _ rfl b2 (off2 + k * 2) _ _ rfl HQ2.out) ?_; go_simp)
            | (refine wpQuiet_val (.bool false) (by kernel_rfl) (quietAt_callf _ enter_eqStep _ _ rfl #[sv (frm st k) (rat st k), sv (frm su k) (rat su k)] (by simp [go_sem]) (fun w' hw' => (eqStep_any _ _ _ _ _).mono (fun e w'' h => ⟨h.1.trans (ret_bool HE.out), hw'.trans (h.2.mono hw'.size)⟩))) ?_; go_simp)
            | go_big_quiet_skip | (go_big_quiet_want; go_big_quiet_op; first | go_big_quiet_on | (refine ⟨_, fun _ _ => rfl, ?_⟩; go_big_quiet_on)))
          refine wpQuiet_nil ?_
          intro w' hw'
          go_wp2
          go_ret
          exact ⟨ret_bool (decide_eq_false (eqB_false hlt hlt2 HE.out)).symm, hbel.trans (hw'.mono hbel.size)⟩
        · have HE := Lib.hid hq
          clear hq
          go_wp2
          refine wp_region_quiet_below (by kernel_rfl) (by kernel_rfl) ?_
          go_simp
          repeat (first
            | (refine wpQuiet_val (sv (frm st k) (rat st k)) (by kernel_rfl) (quietAt_load_step _ rfl b (off + k * 2) _ _ rfl HQ0.out) ?_; go_simp)
            | (refine wpQuiet_val (sv (frm su k) (rat su k)) (by kernel_rfl) (quietAt_load_step _ rfl b2 (off2 + k * 2) _ _ rfl HQ2.out) ?_; go_simp)
            | (refine wpQuiet_val (.bool true) (by kernel_rfl) (quietAt_callf _ enter_eqStep _ _ rfl #[sv (frm st k) (rat st k), sv (frm su k) (rat su k)] (by simp [go_sem]) (fun w' hw' => (eqStep_any _ _ _ _ _).mono (fun e w'' h => ⟨h.1.trans (ret_bool HE.out), hw'.trans (h.2.mono hw'.size)⟩))) ?_; go_simp)
            | go_big_quiet_skip | (go_big_quiet_want; go_big_quiet_op; first | go_big_quiet_on | (refine ⟨_, fun _ _ => rfl, ?_⟩; go_big_quiet_on)))
          refine wpQuiet_nil ?_
          intro w' hw'
          go_wp2
          go_roundw
          case rel => exact ⟨k + 1, by omega, by go_num, take_eqS hlt hlt2 HT.out (eqB_true HE.out), hbel.trans (hw'.mono hbel.size)⟩
          case measure => simp [intOf]; omega
      · clear hlen
        go_wp2
        go_ret
        refine ⟨ret_bool ?_, hbel⟩
        symm
        rw [decide_eq_true_iff]
        have := HT.out
        rwa [List.take_of_length_le (by omega), List.take_of_length_le (by rw [← HL.out]; omega)] at this
  · have hne : ((st.length : Int) != (su.length : Int)) = true := by simp; omega
    go_enter Try.func46, Try.ntmps46
    go_wp2
    go_ret
    refine ⟨ret_bool ?_, Below.refl _ _⟩
    symm
    rw [decide_eq_false_iff_not]
    intro h
    exact hlen (by rw [h])

set_option maxHeartbeats 400000 in
theorem szStepS_fit (a : Option Addr) (n cap : Nat) (l : Int) (w : World) (h0 : 0 ≤ l ∧ l ≤ 1048576) (hn : (n : Int) ≤ l) :
    Calls Try.prog 44 #[.slice a n cap, .int .i64 l] w fun e w' => e = .returned (.int .i64 (l - n)) ∧ w = w' := by
  have h1 : ¬ (l - n < 0) := by omega
  go_enter Try.func44, Try.ntmps44
  go_wp2
  go_ret
  exact ⟨rfl, rfl⟩

set_option maxHeartbeats 400000 in
theorem szStepS_over (a : Option Addr) (n cap : Nat) (l : Int) (w : World) (h0 : 0 ≤ l ∧ l ≤ 1048576) (hm : n ≤ 9223372036854775807) (hn : l < (n : Int)) :
    Calls Try.prog 44 #[.slice a n cap, .int .i64 l] w fun e w' => e = .returned (.int .i64 (-1)) ∧ w = w' := by
  have h1 : l - n < 0 := by omega
  go_enter Try.func44, Try.ntmps44
  go_wp2
  go_ret
  exact ⟨rfl, rfl⟩

end Go.Proofs.Ytmeejaafbbabaaa
