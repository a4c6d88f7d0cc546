/- Bills that are shared, in the model. -/
import Derived.Test.YtbedjebnllimpaaSMs
import Derived.Test.YtbedjebnllimpaaSM
import Derived.Test.YtbedjebnllimpaaSplit
import Derived.Test.YtbedjebnllimpaaWorld
import Derived.Test.YtbedjebnllimpaaSP
import Derived.IntWalk
namespace Go.Proofs.Ytbedjebnllimpaa
open Go.RowKit

def billOK (xs : List Int) : Bool := (xs.all fun x => inR x 0 50) && inR xs.length 1 6
/-- What BillShares answers. -/
def billL (xs : List Int) : List Int := if billOK xs = true then (List.range xs.length).map fun i => xs.getD i 0 - (splitL (tot xs) xs.length).getD i 0 else []

theorem billOK_iff (xs : List Int) : billOK xs = true ↔ (∀ x ∈ xs, 0 ≤ x ∧ x ≤ 50) ∧ 1 ≤ xs.length ∧ xs.length ≤ 6 := by
  simp only [billOK, Bool.and_eq_true, List.all_eq_true]
  constructor
  · rintro ⟨h1, h2⟩
    exact ⟨fun x hx => inR_true (h1 x hx), by have := inR_true h2; omega⟩
  · rintro ⟨h1, h2⟩
    refine ⟨fun x hx => ?_, ?_⟩
    · unfold inR; exact decide_eq_true (h1 x hx)
    · unfold inR; exact decide_eq_true (by omega)

theorem billOK_no {xs : List Int} {k : Nat} (hk : k < xs.length) (h : inR (xs.getD k 0) 0 50 = false) : billOK xs = false := by
  have : (xs.all fun x => inR x 0 50) = false := by
    rw [List.all_eq_false]
    exact ⟨xs.getD k 0, by simp [List.getD, hk], by rw [h]; decide⟩
  rw [billOK, this]; rfl

theorem all_of_get {xs : List Int} {lo hi : Int} (h : ∀ k, k < xs.length → inR (xs.getD k 0) lo hi = true) : (xs.all fun x => inR x lo hi) = true := by
  rw [List.all_eq_true]
  intro x hx
  obtain ⟨k, hk, rfl⟩ := List.getElem_of_mem hx
  have := h k hk
  simpa [List.getD, hk] using this

theorem own_nilV (w : World) (B : Nat) : Own w B (.slice none 0 0) [] := ⟨rfl, .inl ⟨rfl, rfl⟩⟩

set_option maxRecDepth 100000 in
set_option maxHeartbeats 3200000 in
theorem BillShares_spec (v : Value) (xs : List Int) (w : World) (hv : IsInts w v xs) (hl : xs.length ≤ 9223372036854775807) :
    Calls Try.prog 49 #[v] w fun e w' => ∃ v', e = .returned v' ∧ Own w' w.heap.size v' (billL xs) ∧ Below w.heap.size w w' := by
  have HV := Lib.hid hv
  obtain ⟨a, cap, rfl, hc⟩ := hv
  go_enter Try.func49, Try.ntmps49
  go_wp2
  go_loop [3] (fun s => ∃ k : Nat, k ≤ xs.length ∧ s = .int .i64 k ∧ (∀ j, j < k → inR (xs.getD j 0) 0 50 = true)) (fun s => xs.length - (intOf s).toNat)
  case atStart => exact ⟨0, Nat.zero_le _, rfl, fun j hj => absurd hj (Nat.not_lt_zero _)⟩
  case round =>
    obtain ⟨k, hk, rfl, hok⟩ := hrel
    have HOK := Lib.hid hok
    clear hok
    by_cases hlt : k < xs.length
    · obtain ⟨b, off, rfl, hcell⟩ := hc k hlt
      have k1 : (k : Int) < (xs.length : Int) := by omega
      clear hc
      have HNO : Hid (inR (xs.getD k 0) 0 50 = false → billL xs = []) := fun h => by rw [billL, billOK_no hlt h]; rfl
      generalize hx : xs.getD k 0 = x at hcell HNO
      have HX := Lib.hid hx
      clear hx
      cases h4 : inR x 0 50
      · have HF : Hid (billL xs = []) := HNO.out h4
        go_wp2_with (go_at_call 88; refine (inRange_spec _ _ _ _).mono ?_; rintro e w' ⟨rfl, rfl⟩)
        go_ret
        exact ⟨_, rfl, by rw [HF.out]; exact own_nilV _ _, Below.refl _ _⟩
      · go_wp2_with (go_at_call 88; refine (inRange_spec _ _ _ _).mono ?_; rintro e w' ⟨rfl, rfl⟩)
        go_round
        case rel =>
          refine ⟨k + 1, by omega, by go_num, fun j hj => ?_⟩
          by_cases hjk : j = k
          · subst hjk; rw [HX.out]; exact h4
          · exact HOK.out j (by omega)
        case measure => simp [intOf]; omega
    · have ha := all_of_get (fun j hj => HOK.out j (by omega))
      cases h6 : inR xs.length 1 6
      · have HF : Hid (billL xs = []) := by show billL xs = []; rw [billL, billOK, ha, h6]; rfl
        clear ha hc
        go_wp2_with (go_at_call 88; refine (inRange_spec _ _ _ _).mono ?_; rintro e w' ⟨rfl, rfl⟩)
        go_ret
        exact ⟨_, rfl, by rw [HF.out]; exact own_nilV _ _, Below.refl _ _⟩
      · have h6b := inR_true h6
        have hb : ∀ x ∈ xs, 0 ≤ x ∧ x ≤ 50 := fun x hx => inR_true (List.all_eq_true.1 ha x hx)
        have hsf : SumFits xs := sumFits_of xs 50 hb (by decide) (by omega)
        have htb := tot_bounds xs 50 hb
        have hsl : splitL (tot xs) xs.length = (List.range xs.length).map (evenAt (tot xs) xs.length) := splitL_yes (by unfold inR; exact decide_eq_true (by omega)) (by unfold inR; exact decide_eq_true (by omega))
        have HF : Hid (billL xs = (List.range xs.length).map fun i => xs.getD i 0 - (splitL (tot xs) xs.length).getD i 0) := by show billL xs = _; rw [billL, billOK, ha, h6]; rfl
        have HSL : Hid ((splitL (tot xs) xs.length).length = xs.length) := by show _ = _; rw [hsl]; simp
        have HSB : Hid (∀ i, i < xs.length → 0 ≤ (splitL (tot xs) xs.length).getD i 0 ∧ (splitL (tot xs) xs.length).getD i 0 ≤ 301) := fun i hi => by
          rw [hsl]
          have e : ((List.range xs.length).map (evenAt (tot xs) xs.length)).getD i 0 = evenAt (tot xs) xs.length i := by simp [List.getD, hi]
          have h1 := Int.ediv_nonneg htb.1 (show (0 : Int) ≤ xs.length by omega)
          have h2 := Int.ediv_le_self (xs.length : Int) htb.1
          rw [e]; unfold evenAt; split <;> omega
        have HB := Lib.hid hb
        have HS := Lib.hid (sum_spec _ xs w HV.out hl hsf)
        clear ha hb hsf hc hsl
        go_wp2_with (go_at_call 88; refine (inRange_spec _ _ _ _).mono ?_; rw [h6]; rintro e w' ⟨rfl, rfl⟩)
        go_wp2_with fail
        refine HS.out.mono ?_
        rintro e w' ⟨rfl, rfl⟩
        go_wp2_with fail
        refine (SplitEven_spec _ _ _).mono ?_
        rintro e w1 ⟨v1, rfl, ho1, hb1⟩
        generalize hSS : splitL (tot xs) xs.length = ss at *
        have hss := HSL.out
        rcases id ho1.2 with ⟨_, hz⟩ | ⟨g1, c1, cur1, rfl, _⟩
        · omega
        have HO1 := Lib.hid ho1
        have ho0 := own_empty w1 w1.heap.size (Nat.le_refl _)
        have hb2 : Below w1.heap.size w1 (w1.alloc (.cells #[] 3)) := (Below.refl _ _).alloc (Nat.le_refl _) _
        clear ho1 hss
        go_wp2
        go_loopw [5, 6] (fun tv s wr => ∃ i : Nat, i ≤ xs.length ∧ s = .int .i64 i ∧ Own wr w1.heap.size tv (((List.range xs.length).map fun i => xs.getD i 0 - ss.getD i 0).take i) ∧ Below w1.heap.size w1 wr) (fun _ s _ => xs.length - (intOf s).toNat)
        case atStart => exact ⟨0, Nat.zero_le _, rfl, by simpa using ho0, hb2⟩
        case round =>
          obtain ⟨i, hi, rfl, hown, hbl⟩ := hrel
          rename World => wr
          clear ho0 hb2
          by_cases hli : i < xs.length
          · have i1 : (i : Int) < (xs.length : Int) := by omega
            have bA : Below w.heap.size w wr := hb1.trans (hbl.mono hb1.size)
            obtain ⟨a', cap', e', hc'⟩ := HV.out
            simp only [Value.slice.injEq, true_and] at e'
            obtain ⟨rfl, rfl⟩ := e'
            obtain ⟨b, off, rfl, cx0⟩ := hc' i hli
            have hb0 : b < w.heap.size := World.block_lt_of_cell? w _ cx0
            have hbw : b < w1.heap.size := Nat.lt_of_lt_of_le hb0 hb1.size
            have cx := (bA.cell (p := ⟨b, off + i, none⟩) hb0).trans cx0
            clear cx0
            have o1 := HO1.out.below hbl
            have sl1 := HSL.out
            have i2 : (i : Int) < (ss.length : Int) := by omega
            have cs := o1.cell rfl i (by omega)
            have hsb := HSB.out i hli
            have hxb := HB.out (xs.getD i 0) (by simp [List.getD, hli])
            have HTK : Hid ((((List.range xs.length).map fun i => xs.getD i 0 - ss.getD i 0).take i) ++ [xs.getD i 0 - ss.getD i 0] = ((List.range xs.length).map fun i => xs.getD i 0 - ss.getD i 0).take (i + 1)) := by
              show _ = _
              rw [List.take_succ_eq_append_getElem (by simpa using hli)]
              simp
            have HLT : Hid ((((List.range xs.length).map fun i => xs.getD i 0 - ss.getD i 0).take i).length ≤ 6) := by
              show _ ≤ _
              rw [List.length_take]; omega
            generalize ((List.range xs.length).map fun i => xs.getD i 0 - ss.getD i 0).take i = ys at *
            generalize xs.getD i 0 = x at *
            generalize ss.getD i 0 = y at *
            have hs1 : w1.heap.size ≤ wr.heap.size := hbl.size
            have bL : Below wr.heap.size wr (wr.alloc (.cells #[.int .i64 (x - y)] 3)).drew := ((Below.refl wr.heap.size wr).alloc (Nat.le_refl _) _).drew
            have oA := hown.below bL
            have cA : (wr.alloc (.cells #[.int .i64 (x - y)] 3)).drew.cell? ⟨wr.heap.size, 0, none⟩ = some (.int .i64 (x - y)) := World.cell?_alloc_at _ _ _ _ rfl
            have hgw : g1 < w1.heap.size := (HO1.out.lt g1 rfl).2
            have hsA : w1.heap.size ≤ (wr.alloc (.cells #[.int .i64 (x - y)] 3)).drew.heap.size := Nat.le_trans hs1 bL.size
            have HO := Lib.hid oA
            have HC := Lib.hid cA
            have HLTo := HLT.out
            have wxy : IntKind.i64.wrap (x - y) = x - y := IntWalk.i64_in _ (by omega)
            clear hc' sl1 o1 oA cA hown
            go_wp2
            go_region_held3 (fun w' => w'.cell? ⟨b, off + i, none⟩ = some (.int .i64 x) ∧ w'.cell? ⟨g1, i, none⟩ = some (.int .i64 y))
              (first
                | go_keep
                | (go_split_ands
                   exact ⟨(hbl2.cell (by exact hbw)).trans (by assumption), (hbl2.cell (by exact hgw)).trans (by assumption)⟩))
              (first
                | (refine step_spread (s := .tmp 35) (xs := ys) (ys := [x - y]) (B := w1.heap.size) HO.out rfl (one_cell HC.out) (by simp <;> omega) hsA (h := ?_); intro v2 w7 own2 hgrow2 hbl2))
            have own3 : Own w7 w1.heap.size v2 (((List.range xs.length).map fun i => xs.getD i 0 - ss.getD i 0).take (i + 1)) := by
              rw [← HTK.out]; exact own2
            have O3 := Lib.hid own3
            have b7 : Below w1.heap.size w1 w7 := (hbl.trans (bL.mono hs1)).trans hbl2
            clear own2 own3 hgrow2 hbl2 wxy HO HC
            go_wp2
            go_roundw
            case rel => exact ⟨i + 1, by omega, by go_num, O3.out, b7⟩
            case measure => simp [intOf]; omega
          · have hie : i = xs.length := by omega
            have O : Hid (Own wr w.heap.size u5 (billL xs)) := by
              show Own _ _ _ _
              rw [HF.out]
              rw [List.take_of_length_le (by simp; omega)] at hown
              exact hown.base hb1.size
            have bA : Below w.heap.size w wr := hb1.trans (hbl.mono hb1.size)
            clear hown
            go_wp2
            go_ret
            exact ⟨_, rfl, O.out, bA⟩

end Go.Proofs.Ytbedjebnllimpaa
