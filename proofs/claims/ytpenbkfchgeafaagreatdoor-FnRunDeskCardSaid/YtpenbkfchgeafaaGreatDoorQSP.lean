/- append as a step of a region that draws its order. Bills that are shared, in the model. Bills that are shared, in the program. -/
import Derived.Test.YtpenbkfchgeafaaGreatDoorQPush
import Derived.Deep.RegionHeld3
import Derived.Deep.AppendLies
import Derived.Test.YtpenbkfchgeafaaGreatDoorQNum
import Derived.Test.YtpenbkfchgeafaaGreatDoorQOwnB
import Derived.IntWalk
namespace Go.Proofs.YtpenbkfchgeafaaGreatDoor
open Go.RowKit

/-- append(s, u...) as a step of a region: u n ints at ad. -/
theorem step_spread {ops : Array Oper} {o : Oper} {a : Act} {K : Act → World → Prop} {Q : Exit → Act → World → Prop} {E : Prop} {wr : World} {s x : Operand} {B n cu : Nat} {v : Value} {xs ys : List Int} {ad : Addr}
    (hown : Own wr B v xs) (hn : ys.length = n) (hu : ∀ j, j < n → wr.cell? (ad.add j) = some (.int .i64 (ys.getD j 0))) (hlen : xs.length + n ≤ 1048576) (hB : B ≤ wr.heap.size)
    (hgd : Region.wanted o (yielded ops a.tmps) = true := by rfl)
    (ho : o.op = .call { callee := .builtin .append, args := #[s, x], argTypes := #[35, 35] } := by rfl)
    (hs : a.eval s = v := by rfl) (hx : a.eval x = .slice (some ad) n cu := by rfl)
    (h : ∀ v' w', Own w' B v' (xs ++ ys) → wr.grownBy w' v.ownBlock → Below B wr w' → K (a.put o.dst v') w') :
    if Region.wanted o (yielded ops a.tmps) = true then Oper.wp Tryz.prog o a wr K Q else E := by
  subst hn
  obtain ⟨i0, hi, hz0, hz1, hz2⟩ := info_parts infoInt
  have hnews : ∀ j z, (ys.map (Value.int .i64))[j]? = some z → wr.cell? (ad.add j) = some z := by
    intro j z hz
    have hj : j < ys.length := by
      have := (List.getElem?_eq_some_iff.1 hz).1
      simpa using this
    rw [hu j hj]
    simp [List.getD, hj] at hz ⊢
    exact hz
  rw [if_pos hgd]
  obtain ⟨v', w', hr, h2, h3, h4, h5⟩ := run_append_own_at (P := Tryz.prog) wr B 35 o.type 3 i0 (.int .i64 0) 1 8 Tryz.underlying35 hi hz0 hz1 hz2 rfl (by decide) v xs.length (xs.map (Value.int .i64)) hown ad ys.length cu (ys.map (Value.int .i64)) (by simp) hnews (by intro z hz; obtain ⟨q, _, rfl⟩ := List.mem_map.1 hz; rfl) (by unfold maxLen; omega) (by omega) hB
  unfold Oper.wp execOp
  simp only [ho, resolve, invoke, builtin, Sem.run_bind, Sem.run_pure, Result.andThen_ok, List.map_toArray, List.map_cons, List.map_nil, hs, hx, hr]
  refine h v' w' ?_ h3 (Own.pushed_below hown h3 hB)
  unfold Own
  rw [List.map_append, List.length_append]
  exact h2

theorem one_cell {W : World} {g : Nat} {y : Int} (h : W.cell? ⟨g, 0, none⟩ = some (.int .i64 y)) : ∀ j, j < 1 → W.cell? ((⟨g, 0, none⟩ : Addr).add j) = some (.int .i64 ([y].getD j 0)) := by
  intro j hj
  have e : j = 0 := by omega
  subst e
  rw [Go.WideShapes.add_plain]
  exact h

theorem own_empty_at {W : World} {B g : Nat} (hg : W.heap[g]? = some (.cells #[] 3 (0, 0))) (hB : B ≤ g) : Own W B (sl g 0 0) [] := by
  refine ⟨rfl, .inr ⟨g, 0, #[], rfl, hB, hg, Nat.le_refl _, by unfold maxLen; omega, rfl, rfl⟩⟩

theorem Own.capLe {w : World} {B n cap : Nat} {a : Option Addr} {xs : List Int} (h : Own w B (.slice a n cap) xs) : n ≤ cap := by
  rcases h.2 with ⟨h0, _⟩ | ⟨g, c, cur, hv, _, _, hl, _⟩
  · simp only [Value.slice.injEq] at h0
    omega
  · simp only [Value.slice.injEq] at hv
    omega

end Go.Proofs.YtpenbkfchgeafaaGreatDoor

namespace Go.Proofs.YtpenbkfchgeafaaGreatDoor
open Go.RowKit

def billOK (xs : List Int) : Bool := (xs.all fun x => inR x 0 50) && inR xs.length 1 6
/-- What BillShares answers. -/
def billL (xs : List Int) : List Int := if billOK xs = true then (List.range xs.length).map fun i => xs.getD i 0 - (splitL (tot xs) xs.length).getD i 0 else []

theorem billOK_iff (xs : List Int) : billOK xs = true ↔ (∀ x ∈ xs, 0 ≤ x ∧ x ≤ 50) ∧ 1 ≤ xs.length ∧ xs.length ≤ 6 := by
  simp only [billOK, Bool.and_eq_true, List.all_eq_true]
  constructor
  · rintro ⟨h1, h2⟩
    exact ⟨fun x hx => inR_true (h1 x hx), by have := inR_true h2; omega⟩
  · rintro ⟨h1, h2⟩
    refine ⟨fun x hx => ?_, ?_⟩
    · unfold inR; exact decide_eq_true (h1 x hx)
    · unfold inR; exact decide_eq_true (by omega)

theorem billOK_no {xs : List Int} {k : Nat} (hk : k < xs.length) (h : inR (xs.getD k 0) 0 50 = false) : billOK xs = false := by
  have : (xs.all fun x => inR x 0 50) = false := by
    rw [List.all_eq_false]
    exact ⟨xs.getD k 0, by simp [List.getD, hk], by rw [h]; decide⟩
  rw [billOK, this]; rfl

theorem all_of_get {xs : List Int} {lo hi : Int} (h : ∀ k, k < xs.length → inR (xs.getD k 0) lo hi = true) : (xs.all fun x => inR x lo hi) = true := by
  rw [List.all_eq_true]
  intro x hx
  obtain ⟨k, hk, rfl⟩ := List.getElem_of_mem hx
  have := h k hk
  simpa [List.getD, hk] using this

theorem own_nilV (w : World) (B : Nat) : Own w B (.slice none 0 0) [] := ⟨rfl, .inl ⟨rfl, rfl⟩⟩

set_option maxRecDepth 100000 in
set_option maxHeartbeats 3200000 in
theorem BillShares_spec (v : Value) (xs : List Int) (w : World) (hv : IsInts w v xs) (hl : xs.length ≤ 9223372036854775807) :
    Calls Tryz.prog 30 #[v] w fun e w' => ∃ v', e = .returned v' ∧ Own w' w.heap.size v' (billL xs) ∧ Below w.heap.size w w' := by
  have HV := Lib.hid hv
  obtain ⟨a, cap, rfl, hc⟩ := hv
  go_enter Tryz.func30, Tryz.ntmps30
  go_wp2
  go_loop [3] (fun s => ∃ k : Nat, k ≤ xs.length ∧ s = .int .i64 k ∧ (∀ j, j < k → inR (xs.getD j 0) 0 50 = true)) (fun s => xs.length - (intOf s).toNat)
  case atStart => exact ⟨0, Nat.zero_le _, rfl, fun j hj => absurd hj (Nat.not_lt_zero _)⟩
  case round =>
    obtain ⟨k, hk, rfl, hok⟩ := hrel
    have HOK := Lib.hid hok
    clear hok
    by_cases hlt : k < xs.length
    · obtain ⟨b, off, rfl, hcell⟩ := hc k hlt
      have k1 : (k : Int) < (xs.length : Int) := by omega
      clear hc
      have HNO : Hid (inR (xs.getD k 0) 0 50 = false → billL xs = []) := fun h => by rw [billL, billOK_no hlt h]; rfl
      generalize hx : xs.getD k 0 = x at hcell HNO
      have HX := Lib.hid hx
      clear hx
      cases h4 : inR x 0 50
      · have HF : Hid (billL xs = []) := HNO.out h4
        go_wp2_with (go_at_call 38; refine (inRange_spec _ _ _ _).mono ?_; rintro e w' ⟨rfl, rfl⟩)
        go_ret
        exact ⟨_, rfl, by rw [HF.out]; exact own_nilV _ _, Below.refl _ _⟩
      · go_wp2_with (go_at_call 38; refine (inRange_spec _ _ _ _).mono ?_; rintro e w' ⟨rfl, rfl⟩)
        go_round
        case rel =>
          refine ⟨k + 1, by omega, by go_num, fun j hj => ?_⟩
          by_cases hjk : j = k
          · subst hjk; rw [HX.out]; exact h4
          · exact HOK.out j (by omega)
        case measure => simp [intOf]; omega
    · have ha := all_of_get (fun j hj => HOK.out j (by omega))
      cases h6 : inR xs.length 1 6
      · have HF : Hid (billL xs = []) := by show billL xs = []; rw [billL, billOK, ha, h6]; rfl
        clear ha hc
        go_wp2_with (go_at_call 38; refine (inRange_spec _ _ _ _).mono ?_; rintro e w' ⟨rfl, rfl⟩)
        go_ret
        exact ⟨_, rfl, by rw [HF.out]; exact own_nilV _ _, Below.refl _ _⟩
      · have h6b := inR_true h6
        have hb : ∀ x ∈ xs, 0 ≤ x ∧ x ≤ 50 := fun x hx => inR_true (List.all_eq_true.1 ha x hx)
        have hsf : SumFits xs := sumFits_of xs 50 hb (by decide) (by omega)
        have htb := tot_bounds xs 50 hb
        have hsl : splitL (tot xs) xs.length = (List.range xs.length).map (evenAt (tot xs) xs.length) := splitL_yes (by unfold inR; exact decide_eq_true (by omega)) (by unfold inR; exact decide_eq_true (by omega))
        have HF : Hid (billL xs = (List.range xs.length).map fun i => xs.getD i 0 - (splitL (tot xs) xs.length).getD i 0) := by show billL xs = _; rw [billL, billOK, ha, h6]; rfl
        have HSL : Hid ((splitL (tot xs) xs.length).length = xs.length) := by show _ = _; rw [hsl]; simp
        have HSB : Hid (∀ i, i < xs.length → 0 ≤ (splitL (tot xs) xs.length).getD i 0 ∧ (splitL (tot xs) xs.length).getD i 0 ≤ 301) := fun i hi => by
          rw [hsl]
          have e : ((List.range xs.length).map (evenAt (tot xs) xs.length)).getD i 0 = evenAt (tot xs) xs.length i := by simp [List.getD, hi]
          have h1 := Int.ediv_nonneg htb.1 (show (0 : Int) ≤ xs.length by omega)
          have h2 := Int.ediv_le_self (xs.length : Int) htb.1
          rw [e]; unfold evenAt; split <;> omega
        have HB := Lib.hid hb
        have HS := Lib.hid (sum_spec _ xs w HV.out hl hsf)
        clear ha hb hsf hc hsl
        go_wp2_with (go_at_call 38; refine (inRange_spec _ _ _ _).mono ?_; rw [h6]; rintro e w' ⟨rfl, rfl⟩)
        go_wp2_with fail
        refine HS.out.mono ?_
        rintro e w' ⟨rfl, rfl⟩
        go_wp2_with fail
        refine (SplitEven_spec _ _ _).mono ?_
        rintro e w1 ⟨v1, rfl, ho1, hb1⟩
        generalize hSS : splitL (tot xs) xs.length = ss at *
        have hss := HSL.out
        rcases id ho1.2 with ⟨_, hz⟩ | ⟨g1, c1, cur1, rfl, _⟩
        · omega
        have HO1 := Lib.hid ho1
        have ho0 := own_empty w1 w1.heap.size (Nat.le_refl _)
        have hb2 : Below w1.heap.size w1 (w1.alloc (.cells #[] 3)) := (Below.refl _ _).alloc (Nat.le_refl _) _
        clear ho1 hss
        go_wp2
        go_loopw [5, 6] (fun tv s wr => ∃ i : Nat, i ≤ xs.length ∧ s = .int .i64 i ∧ Own wr w1.heap.size tv (((List.range xs.length).map fun i => xs.getD i 0 - ss.getD i 0).take i) ∧ Below w1.heap.size w1 wr) (fun _ s _ => xs.length - (intOf s).toNat)
        case atStart => exact ⟨0, Nat.zero_le _, rfl, by simpa using ho0, hb2⟩
        case round =>
          obtain ⟨i, hi, rfl, hown, hbl⟩ := hrel
          rename World => wr
          clear ho0 hb2
          by_cases hli : i < xs.length
          · have i1 : (i : Int) < (xs.length : Int) := by omega
            have bA : Below w.heap.size w wr := hb1.trans (hbl.mono hb1.size)
            obtain ⟨a', cap', e', hc'⟩ := HV.out
            simp only [Value.slice.injEq, true_and] at e'
            obtain ⟨rfl, rfl⟩ := e'
            obtain ⟨b, off, rfl, cx0⟩ := hc' i hli
            have hb0 : b < w.heap.size := World.block_lt_of_cell? w _ cx0
            have hbw : b < w1.heap.size := Nat.lt_of_lt_of_le hb0 hb1.size
            have cx := (bA.cell (p := ⟨b, off + i, none⟩) hb0).trans cx0
            clear cx0
            have o1 := HO1.out.below hbl
            have sl1 := HSL.out
            have i2 : (i : Int) < (ss.length : Int) := by omega
            have cs := o1.cell rfl i (by omega)
            have hsb := HSB.out i hli
            have hxb := HB.out (xs.getD i 0) (by simp [List.getD, hli])
            have HTK : Hid ((((List.range xs.length).map fun i => xs.getD i 0 - ss.getD i 0).take i) ++ [xs.getD i 0 - ss.getD i 0] = ((List.range xs.length).map fun i => xs.getD i 0 - ss.getD i 0).take (i + 1)) := by
              show _ = _
              rw [List.take_succ_eq_append_getElem (by simpa using hli)]
              simp
            have HLT : Hid ((((List.range xs.length).map fun i => xs.getD i 0 - ss.getD i 0).take i).length ≤ 6) := by
              show _ ≤ _
              rw [List.length_take]; omega
            generalize ((List.range xs.length).map fun i => xs.getD i 0 - ss.getD i 0).take i = ys at *
            generalize xs.getD i 0 = x at *
            generalize ss.getD i 0 = y at *
            have hs1 : w1.heap.size ≤ wr.heap.size := hbl.size
            have bL : Below wr.heap.size wr (wr.alloc (.cells #[.int .i64 (x - y)] 3)).drew := ((Below.refl wr.heap.size wr).alloc (Nat.le_refl _) _).drew
            have oA := hown.below bL
            have cA : (wr.alloc (.cells #[.int .i64 (x - y)] 3)).drew.cell? ⟨wr.heap.size, 0, none⟩ = some (.int .i64 (x - y)) := World.cell?_alloc_at _ _ _ _ rfl
            have hgw : g1 < w1.heap.size := (HO1.out.lt g1 rfl).2
            have hsA : w1.heap.size ≤ (wr.alloc (.cells #[.int .i64 (x - y)] 3)).drew.heap.size := Nat.le_trans hs1 bL.size
            have HO := Lib.hid oA
            have HC := Lib.hid cA
            have HLTo := HLT.out
            have wxy : IntKind.i64.wrap (x - y) = x - y := IntWalk.i64_in _ (by omega)
            clear hc' sl1 o1 oA cA hown
            go_wp2
            go_region_held3 (fun w' => w'.cell? ⟨b, off + i, none⟩ = some (.int .i64 x) ∧ w'.cell? ⟨g1, i, none⟩ = some (.int .i64 y))
              (first
                | go_keep
                | (go_split_ands
                   exact ⟨(hbl2.cell (by exact hbw)).trans (by assumption), (hbl2.cell (by exact hgw)).trans (by assumption)⟩))
              (first
                | (refine step_spread (s := .tmp 35) (xs := ys) (ys := [x - y]) (B := w1.heap.size) HO.out rfl (one_cell HC.out) (by simp <;> omega) hsA (h := ?_); intro v2 w7 own2 hgrow2 hbl2))
            have own3 : Own w7 w1.heap.size v2 (((List.range xs.length).map fun i => xs.getD i 0 - ss.getD i 0).take (i + 1)) := by
              rw [← HTK.out]; exact own2
            have O3 := Lib.hid own3
            have b7 : Below w1.heap.size w1 w7 := (hbl.trans (bL.mono hs1)).trans hbl2
            clear own2 own3 hgrow2 hbl2 wxy HO HC
            go_wp2
            go_roundw
            case rel => exact ⟨i + 1, by omega, by go_num, O3.out, b7⟩
            case measure => simp [intOf]; omega
          · have hie : i = xs.length := by omega
            have O : Hid (Own wr w.heap.size u5 (billL xs)) := by
              show Own _ _ _ _
              rw [HF.out]
              rw [List.take_of_length_le (by simp; omega)] at hown
              exact hown.base hb1.size
            have bA : Below w.heap.size w wr := hb1.trans (hbl.mono hb1.size)
            clear hown
            go_wp2
            go_ret
            exact ⟨_, rfl, O.out, bA⟩

end Go.Proofs.YtpenbkfchgeafaaGreatDoor

namespace Go.Proofs.YtpenbkfchgeafaaGreatDoor
open Go.RowKit

theorem billOK_of (xs : List Int) : billOK xs = (inR xs.length 1 6 && allR xs 0 50) := by
  unfold billOK allR
  rw [Bool.and_comm]

theorem getD_set_bill (xs : List Int) (i k : Nat) (x : Int) (hk : k < xs.length) : (xs.set i x).getD k 0 = if k = i then x else xs.getD k 0 := by
  by_cases e : k = i
  · subst e; rw [if_pos rfl]; simp [List.getD, hk]
  · rw [if_neg e]
    have e' : ¬ i = k := fun h => e h.symm
    simp [List.getD, e']

set_option maxRecDepth 100000 in
set_option maxHeartbeats 3200000 in
theorem BillShares_impl (v : Value) (xs : List Int) (w : World) (hv : IsInts w v xs) (hl : xs.length ≤ 9223372036854775807) :
    Calls Tryz.prog 58 #[v] w fun e w' => ∃ v', e = .returned v' ∧ Own w' w.heap.size v' (billL xs) ∧ Below w.heap.size w w' := by
  have HV := Lib.hid hv
  have hv' := hv
  obtain ⟨a, cap, rfl, hc⟩ := hv
  cases h1 : inR xs.length 1 6
  · have E : Hid (billL xs = []) := by show _ = _; rw [billL, billOK_of, h1]; rfl
    clear hc
    go_enter Tryz.func58, Tryz.ntmps58
    go_wp2_with (go_at_call 73; refine (inRange_impl _ _ _ _).mono ?_; rintro e w' ⟨rfl, rfl⟩)
    go_ret
    exact ⟨_, rfl, by rw [E.out]; exact own_nilV _ _, Below.refl _ _⟩
  · cases h2 : allR xs 0 50
    · have E : Hid (billL xs = []) := by show _ = _; rw [billL, billOK_of, h1, h2]; rfl
      clear hc
      go_enter Tryz.func58, Tryz.ntmps58
      go_wp2_with (first | (go_at_call 73; refine (inRange_impl _ _ _ _).mono ?_; rintro e w' ⟨rfl, rfl⟩) | (go_at_call 74; refine (allInRange_impl _ _ _ _ _ hv' hl).mono ?_; rintro e w' ⟨rfl, rfl⟩))
      go_ret
      exact ⟨_, rfl, by rw [E.out]; exact own_nilV _ _, Below.refl _ _⟩
    · have h6b := inR_true h1
      have hb : ∀ x ∈ xs, 0 ≤ x ∧ x ≤ 50 := allR_true h2
      have hsf : SumFits xs := sumFits_of xs 50 hb (by decide) (by omega)
      have htb := tot_bounds xs 50 hb
      have hsl : splitL (tot xs) xs.length = (List.range xs.length).map (evenAt (tot xs) xs.length) := splitL_yes (by unfold inR; exact decide_eq_true (by omega)) (by unfold inR; exact decide_eq_true (by omega))
      have HF : Hid (billL xs = (List.range xs.length).map fun i => xs.getD i 0 - (splitL (tot xs) xs.length).getD i 0) := by show billL xs = _; rw [billL, billOK_of, h1, h2]; rfl
      have HSL : Hid ((splitL (tot xs) xs.length).length = xs.length) := by show _ = _; rw [hsl]; simp
      have HSB : Hid (∀ i, i < xs.length → 0 ≤ (splitL (tot xs) xs.length).getD i 0 ∧ (splitL (tot xs) xs.length).getD i 0 ≤ 301) := fun i hi => by
        rw [hsl]
        have e : ((List.range xs.length).map (evenAt (tot xs) xs.length)).getD i 0 = evenAt (tot xs) xs.length i := by simp [List.getD, hi]
        have h1 := Int.ediv_nonneg htb.1 (show (0 : Int) ≤ xs.length by omega)
        have h2 := Int.ediv_le_self (xs.length : Int) htb.1
        rw [e]; unfold evenAt; split <;> omega
      have HB := Lib.hid hb
      have HS := Lib.hid (sum_impl _ xs w HV.out hl hsf)
      have HSP := Lib.hid (SplitEven_impl (tot xs) xs.length w)
      clear hb hsf hc hsl
      go_enter Tryz.func58, Tryz.ntmps58
      go_wp2_with (first | (go_at_call 73; refine (inRange_impl _ _ _ _).mono ?_; rw [h1]; rintro e w' ⟨rfl, rfl⟩) | (go_at_call 74; refine (allInRange_impl _ _ _ _ _ hv' hl).mono ?_; rw [h2]; rintro e w' ⟨rfl, rfl⟩) | (go_at_call 70; refine HS.out.mono ?_; rintro e w' ⟨rfl, rfl⟩) | (go_at_call 75; refine HSP.out.mono ?_))
      rintro e w1 ⟨v1, rfl, ho1, hb1⟩
      have hs1 : w.heap.size ≤ w1.heap.size := hb1.size
      generalize splitL (tot xs) xs.length = ss at *
      rcases id ho1.2 with ⟨_, hz⟩ | ⟨g1, cap1, cur1, rfl, _⟩
      · exfalso; have := HSL.out; omega
      have hgl := ho1.lt g1 rfl
      have o2 : Own w1 w.heap.size (sl g1 xs.length cap1) ss := by have h := HSL.out; rw [← h]; exact ho1
      have HL := HSL.out
      rw [HL]
      clear ho1 htb
      go_wp2
      go_loopw [22] (fun s wr => ∃ (k : Nat) (ys : List Int), k ≤ xs.length ∧ s = .int .i64 k ∧ ys.length = xs.length ∧ (∀ j, j < xs.length → ys.getD j 0 = if j < k then xs.getD j 0 - ss.getD j 0 else ss.getD j 0) ∧ Own wr w.heap.size (sl g1 xs.length cap1) ys ∧ Below w.heap.size w wr) (fun s _ => xs.length - (intOf s).toNat)
      case atStart => exact ⟨0, ss, Nat.zero_le _, rfl, HL, fun j _ => by rw [if_neg (Nat.not_lt_zero _)], o2, hb1⟩
      case round =>
        obtain ⟨k, ys, hk, rfl, hyl, hys, hown, hbl⟩ := hrel
        rename World => wr
        clear o2 hb1
        have HYS := Lib.hid hys
        have HYL := Lib.hid hyl
        clear hys
        by_cases hlt : k < xs.length
        · have i1 : (k : Int) < (xs.length : Int) := by omega
          obtain ⟨a', cap', e', hc'⟩ := HV.out
          simp only [Value.slice.injEq, true_and] at e'
          obtain ⟨rfl, rfl⟩ := e'
          obtain ⟨b, off, rfl, cx0⟩ := hc' k hlt
          have cx := (hbl.cell (p := ⟨b, off + k, none⟩) (World.block_lt_of_cell? w _ cx0)).trans cx0
          have c1 := hown.cell hyl k hlt
          have hyk : ys.getD k 0 = ss.getD k 0 := by rw [HYS.out k hlt, if_neg (Nat.lt_irrefl _)]
          rw [hyk] at c1
          have f1 := hown.frozen hyl k
          have s1 := hown.set hyl k (xs.getD k 0 - ss.getD k 0)
          have hsb := HSB.out k hlt
          have hxb := HB.out (xs.getD k 0) (by simp [List.getD, hlt])
          have wxy : IntKind.i64.wrap (xs.getD k 0 - ss.getD k 0) = xs.getD k 0 - ss.getD k 0 := IntWalk.i64_in _ (by omega)
          have hb2 : Below w.heap.size w _ := hbl.trans (below_grown s1.2 hbl.size (fun q hq => by cases hq; exact hgl.1))
          have HNY : Hid (∀ j, j < xs.length → (ys.set k (xs.getD k 0 - ss.getD k 0)).getD j 0 = if j < k + 1 then xs.getD j 0 - ss.getD j 0 else ss.getD j 0) := fun j hj => by
            rw [getD_set_bill _ _ _ _ (by rw [HYL.out]; exact hj)]
            by_cases e : j = k
            · subst e; rw [if_pos rfl, if_pos (Nat.lt_succ_self _)]
            · rw [if_neg e, HYS.out j hj]
              by_cases h : j < k
              · rw [if_pos h, if_pos (by omega)]
              · rw [if_neg h, if_neg (by omega)]
          have S1 := Lib.hid s1.1
          clear s1 hown hyk hyl
          generalize hx : xs.getD k 0 = x at *
          generalize hs : ss.getD k 0 = y at *
          clear hx hs
          go_wp2
          go_roundw
          case rel => exact ⟨k + 1, ys.set k (x - y), by omega, by go_num, by rw [List.length_set]; exact HYL.out, HNY.out, S1.out, hb2⟩
          case measure => simp [intOf]; omega
        · have hke : k = xs.length := by omega
          subst hke
          have hfin : ys = billL xs := by
            rw [HF.out]
            exact list_of_getD ys xs.length (fun i => xs.getD i 0 - ss.getD i 0) HYL.out (fun j hj => by rw [HYS.out j hj, if_pos hj])
          have O : Hid (Own wr w.heap.size (sl g1 xs.length cap1) (billL xs)) := by show Own _ _ _ _; rw [← hfin]; exact hown
          clear hfin hown hyl
          go_wp2
          go_ret
          exact ⟨_, rfl, O.out, hbl⟩

end Go.Proofs.YtpenbkfchgeafaaGreatDoor
