/- The tax of an income, in the program. -/
import Derived.Test.YtmeejaafbbabaaaVSteps
namespace Go.Proofs.Ytmeejaafbbabaaa
open Go.RowKit

/-- Steps of a tax, and an income. -/
def canT (st : List (Int × Int)) (x : Int) : Bool := vSteps st && inR x 0 2000
theorem canT_true {st : List (Int × Int)} {x : Int} (h : canT st x = true) : Steps st ∧ 0 ≤ x ∧ x ≤ 2000 := by
  have h' : vSteps st = true ∧ inR x 0 2000 = true := by simpa [canT] using h
  exact ⟨vSteps_iff.1 h'.1, inR_true h'.2⟩

set_option maxHeartbeats 400000 in
theorem canTax_impl (v : Value) (st : List (Int × Int)) (x : Int) (w : World) (hv : IsSteps w v st) (hl : st.length ≤ 9223372036854775807) :
    Calls Try.prog 55 #[v, .int .i64 x] w fun e w' => e = .returned (.bool (canT st x)) ∧ Below w.heap.size w w' := by
  cases h1 : vSteps st
  · go_enter Try.func55, Try.ntmps55
    go_wp2_with fail
    refine (ValidSteps_impl _ _ _ hv hl).mono ?_
    rintro e w' ⟨rfl, hb⟩
    rw [h1]
    go_wp2
    go_ret
    exact ⟨ret_bool (by rw [canT, h1]; rfl), hb⟩
  · go_enter Try.func55, Try.ntmps55
    go_wp2_with fail
    refine (ValidSteps_impl _ _ _ hv hl).mono ?_
    rintro e w' ⟨rfl, hb⟩
    rw [h1]
    go_wp2_with (go_at_call 51; refine (inRange_impl _ _ _ _).mono ?_; rintro e w' ⟨rfl, rfl⟩)
    go_ret
    exact ⟨ret_bool (by rw [canT, h1]; rfl), hb⟩

theorem step_ne {f r f' r' : Int} (h : f < f') : ((f == f') && (r == r')) = false := by
  have : (f == f') = false := by simp; omega
  rw [this]; rfl

set_option maxHeartbeats 1600000 in
theorem hundredOf_impl (v : Value) (st : List (Int × Int)) (x : Int) (w : World) (hv : IsSteps w v st) (hs : Steps st) (hx : 0 ≤ x ∧ x ≤ 2000) :
    Calls Try.prog 56 #[v, .int .i64 x] w fun e w' => e = .returned (.int .i64 (taxT st x)) ∧ Below w.heap.size w w' := by
  have hv0 := hv
  obtain ⟨a, cap, rfl, hc⟩ := hv
  have hl1 := hs.len1
  have hl5 := hs.len5
  have hK := hs.atX_lt x
  have hKx := hs.atX_at hx.1
  have hKf := hs.fr _ hK
  have hKr := hs.rt _ hK
  go_enter Try.func56, Try.ntmps56
  go_wp2_with fail
  refine (stepAt_impl _ st x _ hv0 hs hx).mono ?_
  rintro e w1 ⟨rfl, hb1⟩
  go_wp2_with fail
  have hbx1 := IsBox.new w1 (frm st (atX st x)) (rat st (atX st x))
  have hbw1 : Below w.heap.size w (w1.alloc (.cells #[.int .i64 (frm st (atX st x)), .int .i64 (rat st (atX st x))] 33)) := hb1.alloc hb1.size _
  have hbl1 : w.heap.size ≤ w1.heap.size := hb1.size
  clear hb1
  generalize w1.alloc (.cells #[.int .i64 (frm st (atX st x)), .int .i64 (rat st (atX st x))] 33) = W1 at *
  generalize w1.heap.size = bx at *
  refine (hundredUpTo_impl _ _ _ _ hKf hKr hx).mono ?_
  rintro e w2 ⟨rfl, hb2⟩
  have hbx2 := IsBox.below hbx1 hb2
  have hbw2 : Below w.heap.size w w2 := hbw1.trans (hb2.mono hbw1.size)
  clear hb2 hbx1 hbw1
  go_wp2
  go_loopw [6, 7] (fun t s wr => ∃ i : Nat, i ≤ atX st x ∧ s = .int .i64 i ∧ t = .int .i64 (full st i + (x - frm st (atX st x)) * rat st (atX st x)) ∧ IsBox wr bx (frm st (atX st x)) (rat st (atX st x)) ∧ Below w.heap.size w wr) (fun _ s _ => atX st x - (intOf s).toNat)
  case atStart => exact ⟨0, Nat.zero_le _, rfl, by simp [full], hbx2, hbw2⟩
  case round =>
    clear hbx2 hbw2
    obtain ⟨i, hi, rfl, rfl, hbx, hbw⟩ := hrel
    have hfi := hs.full_bounds i (by omega)
    have hmb := mul_bounds (a := x - frm st (atX st x)) (by omega) hKr
    have hii := hs.fr i (by omega)
    have hil : i < st.length := by omega
    have i1 : (i : Int) < (st.length : Int) := by omega
    obtain ⟨b, off, rfl, c0, c1⟩ := hc i (by omega)
    have hbb : b < w.heap.size := World.block_lt_of_cell? w _ c0
    have d0 : wr.cell? ⟨b, off + i * 2, none⟩ = some (.int .i64 (frm st i)) := (hbw.cell (by exact hbb)).trans c0
    have d1 : wr.cell? ⟨b, off + i * 2 + 1, none⟩ = some (.int .i64 (rat st i)) := (hbw.cell (by exact hbb)).trans c1
    obtain ⟨e0, e1, _, _⟩ := hbx.cells
    by_cases hik : i = atX st x
    · subst hik
      go_wp2
      go_quiet (fail)
      go_wp2
      go_ret
      exact ⟨rfl, below_drewN hbw _⟩
    · have hlt := hs.lt (show i < atX st x by omega) hK
      have hne := step_ne (r := rat st i) (r' := rat st (atX st x)) hlt
      have hne2 : (frm st i == frm st (atX st x)) = false := by simp; omega
      have hne3 : ¬ frm st i = frm st (atX st x) := by omega
      go_wp2
      go_quiet (fail)
      go_wp2
      have hj : i + 1 < st.length := by omega
      have j1 : (i : Int) + 1 < (st.length : Int) := by omega
      obtain ⟨b', off', e', c2, _⟩ := hc (i + 1) hj
      simp only [Option.some.injEq, Addr.mk.injEq, and_true] at e'
      obtain ⟨rfl, rfl⟩ := e'
      have hfj := hs.fr (i + 1) hj
      have hri := hs.rt i hil
      have hfu := hs.full_bounds (i + 1) hj
      have HF : Hid (full st (i + 1) = full st i + (frm st (i + 1) - frm st i) * rat st i) := rfl
      rw [HF.out] at hfu
      have hup := hs.up i hj
      have hmi := mul_bounds (a := frm st (i + 1) - frm st i) (by omega) hri
      have hbwW : Below w.heap.size w (wr.drewN nq) := below_drewN hbw _
      have hbxW : IsBox (wr.drewN nq) bx (frm st (atX st x)) (rat st (atX st x)) := hbx
      clear d0 d1 e0 e1 hne hne2 hne3 hbw hbx
      generalize wr.drewN nq = W at *
      have hq0 : ∀ w', Below W.heap.size W w' → w'.cell? ⟨b, off + i * 2, none⟩ = some (.int .i64 (frm st i)) ∧ w'.cell? ⟨b, off + i * 2 + 1, none⟩ = some (.int .i64 (rat st i)) := fun w' hw' =>
        ⟨((hbwW.trans (hw'.mono hbwW.size)).cell (by exact hbb)).trans c0, ((hbwW.trans (hw'.mono hbwW.size)).cell (by exact hbb)).trans c1⟩
      have hq2 : ∀ w', Below W.heap.size W w' → w'.cell? ⟨b, off + (i + 1) * 2, none⟩ = some (.int .i64 (frm st (i + 1))) := fun w' hw' => ((hbwW.trans (hw'.mono hbwW.size)).cell (by exact hbb)).trans c2
      have HQ0 := Lib.hid hq0
      have HQ2 := Lib.hid hq2
      clear hq0 hq2 hc
      refine wp_region_quiet_below (by kernel_rfl) (by kernel_rfl) ?_
      go_simp
      repeat (first
        | (refine wpQuiet_val (sv (frm st i) (rat st i)) (by kernel_rfl) (quietAt_load_step _ rfl b (off + i * 2) _ _ rfl HQ0.out) ?_; go_simp)
        | (refine wpQuiet_val (.int .i64 (frm st (i + 1))) (by kernel_rfl) (quietAt_load_int _ rfl ⟨b, off + (i + 1) * 2, none⟩ _ rfl HQ2.out) ?_; go_simp)
        | (refine wpQuiet_val (.int .i64 ((frm st (i + 1) - frm st i) * rat st i)) (by kernel_rfl) (quietAt_callf _ enter_hundredUpTo _ _ rfl #[sv (frm st i) (rat st i), .int .i64 (frm st (i + 1))] (by simp [go_sem]) (fun w' hw' => (hundredUpTo_impl _ _ _ _ hii hri hfj).mono (fun e w'' h => ⟨h.1, hw'.trans (h.2.mono hw'.size)⟩))) ?_; go_simp)
        | go_big_quiet_skip | (go_big_quiet_want; go_big_quiet_op; first | go_big_quiet_on | (refine ⟨_, fun _ _ => rfl, ?_⟩; go_big_quiet_on)))
      refine wpQuiet_nil ?_
      intro w' hw'
      go_wp2
      go_roundw
      case rel => exact ⟨i + 1, by omega, by go_num, by rw [HF.out]; congr 1; omega, hbxW.below hw', hbwW.trans (hw'.mono hbwW.size)⟩
      case measure => simp [intOf]; omega

end Go.Proofs.Ytmeejaafbbabaaa
