/- Most groups, in the model: the walk. -/
import Derived.Test.YtbedjebnllimpaaGrpM
import Derived.Test.YtbedjebnllimpaaBalV
import Derived.Test.YtbedjebnllimpaaPush
import Derived.StillTailTactics
import Derived.IntWalk
namespace Go.Proofs.Ytbedjebnllimpaa
open Go.RowKit

theorem getD_set_int2 (xs : List Int) (i k : Nat) (x : Int) (hk : k < xs.length) : (xs.set i x).getD k 0 = if k = i then x else xs.getD k 0 := by
  by_cases e : k = i
  · subst e; rw [if_pos rfl]; simp [List.getD, hk]
  · rw [if_neg e]
    have e' : ¬ i = k := fun h => e h.symm
    simp [List.getD, e']

theorem grown_drewS {w w' : World} {row : Option Nat} (h : w.grownBy w' row) : w.grownBy w'.drew row := ⟨h.os, h.tape, h.output, h.size, h.block⟩

set_option maxRecDepth 100000 in
set_option maxHeartbeats 6400000 in
theorem groupsOf_spec (v : Value) (xs : List Int) (w : World) (hv : IsInts w v xs) (hx : ∀ x ∈ xs, -300 ≤ x ∧ x ≤ 300) (hn : 1 ≤ xs.length ∧ xs.length ≤ 6) :
    Calls Try.prog 80 #[v] w fun e w' => e = .returned (.int .i64 (gp xs (2 ^ xs.length - 1))) ∧ Below w.heap.size w w' := by
  have HV := Lib.hid hv
  obtain ⟨a, cap, rfl, hc⟩ := hv
  have hp := pow_le6 hn.2
  have HX := Lib.hid hx
  obtain ⟨i0, hi, hz0, hz1, hz2⟩ := info_parts infoInt
  have HW := Lib.hid (power_spec xs.length w hn.2)
  have HLT : Hid (∀ i, i < xs.length → 2 ^ (i + 1) ≤ 2 ^ xs.length) := fun i hi => Nat.pow_le_pow_right (by decide) hi
  generalize hN : 2 ^ xs.length = N at *
  clear hc hx hN
  go_enter Try.func80, Try.ntmps80
  go_wp2_with fail
  refine HW.out.mono ?_
  rintro e w' ⟨rfl, rfl⟩
  go_wp2_with (at_make; refine wpList_make_full _ rfl _ _ 28 rfl w.heap.size 3 i0 (.int .i64 0) 1 Try.underlying28 hi hz0 hz1 _ _ _ _ N rfl rfl rfl rfl ?b2 ?b3 (Nat.le_refl _) ?_)
  case b2 => rw [hz2]; omega
  case b3 => unfold maxLen; omega
  intro w0 hown0 hgrow0
  have hb0 : Below w.heap.size w w0 := below_grown hgrow0 (Nat.le_refl _) (fun k h => by cases h)
  have hw0 : Own w0 w.heap.size (sl w.heap.size N N) (gpT xs N 1) := by
    rw [gpT_one]; exact own_made hown0
  clear hown0 hgrow0
  go_wp2
  go_loopw [4, 5, 6] (fun s _ _ wr => ∃ t : Nat, 1 ≤ t ∧ t ≤ N ∧ s = .int .i64 t ∧ Own wr w.heap.size (sl w.heap.size N N) (gpT xs N t) ∧ Below w.heap.size w wr) (fun s _ _ _ => N - (intOf s).toNat)
  case atStart => exact ⟨1, Nat.le_refl _, hp.1, rfl, hw0, hb0⟩
  case round =>
    obtain ⟨t, ht1, htN, rfl, hown, hbl⟩ := hrel
    rename World => wo
    clear hw0 hb0
    by_cases hlt : t < N
    · have t1 : (t : Int) < (N : Int) := by omega
      have h0 : (gpT xs N t).set t (mxN t (gp xs) 0) = gpT xs N t := by
        refine List.ext_getElem (by simp) fun q h1 h2 => ?_
        rw [List.getElem_set]
        by_cases e : t = q
        · subst e
          rw [if_pos rfl]
          simp [gpT, mxN]
        · rw [if_neg e]
      have HOW : Hid (Own wo w.heap.size (sl w.heap.size N N) ((gpT xs N t).set t (mxN t (gp xs) 0))) := by show Own _ _ _ _; rw [h0]; exact hown
      clear hown h0
      go_wp2
      go_loopw [5, 6] (fun sv iv wx => ∃ i : Nat, i ≤ xs.length ∧ iv = .int .i64 i ∧ sv = .int .i64 (ttN xs t i) ∧ Own wx w.heap.size (sl w.heap.size N N) ((gpT xs N t).set t (mxN t (gp xs) i)) ∧ Below w.heap.size w wx) (fun _ iv _ => xs.length - (intOf iv).toNat)
      case atStart => exact ⟨0, Nat.zero_le _, rfl, rfl, HOW.out, hbl⟩
      case round =>
        clear HOW hbl
        obtain ⟨i, hi', rfl, rfl, hown, hbl⟩ := hrel
        rename World => wi
        by_cases hli : i < xs.length
        · have i1 : (i : Int) < (xs.length : Int) := by omega
          obtain ⟨a', cap', e', hc'⟩ := HV.out
          simp only [Value.slice.injEq, true_and] at e'
          obtain ⟨rfl, rfl⟩ := e'
          obtain ⟨b, off, rfl, cx0⟩ := hc' i hli
          have hbw : b < w.heap.size := World.block_lt_of_cell? w _ cx0
          have cx := (hbl.cell (p := ⟨b, off + i, none⟩) hbw).trans cx0
          have htb := ttN_bounds (show (0 : Int) ≤ 300 by decide) HX.out t i (Nat.le_of_lt hli)
          have hxb := HX.out (xs.getD i 0) (by simp [List.getD, hli])
          have hle6 : i ≤ 6 := by omega
          have HBT0 := bit_spec t i wi hle6 (by omega)
          have htNN : t < N := hlt
          by_cases hbit : bitN t i = 1
          · have hbp := bit_le hbit
            have hp6 := pow_le6 hle6
            have HPW : Hid (Calls Try.prog 97 #[.int .i64 i] wi.drew fun e w'' => e = .returned (.int .i64 ((2 ^ i : Nat) : Int)) ∧ w'' = wi.drew) := (power_spec i wi.drew hle6).mono fun e w' h => ⟨h.1, h.2.symm⟩
            rw [hbit] at HBT0
            have HBT := Lib.hid HBT0
            have HS1 : Hid (ttN xs t (i + 1) = ttN xs t i + xs.getD i 0) := by show _ = _; rw [ttN, if_pos hbit]
            have HM1 : Hid (mxN t (gp xs) (i + 1) = max (mxN t (gp xs) i) (gp xs (t - 2 ^ i))) := by show _ = _; rw [mxN, if_pos hbit]
            have hgb := gp_bounds xs (t - 2 ^ i) (t - 2 ^ i) (Nat.le_refl _)
            have hmb := mxN_bounds (s := t) (F := gp xs) (m := t) (by omega) i (fun j _ hj => by
              have h1 := bit_le hj
              have h2 := (gp_bounds xs (t - 2 ^ j) (t - 2 ^ j) (Nat.le_refl _)).2
              omega)
            have hlen : ((gpT xs N t).set t (mxN t (gp xs) i)).length = N := by rw [List.length_set, gpT_len]
            have c1 := hown.cell hlen t hlt
            have c2 := hown.cell hlen (t - 2 ^ i) (by omega)
            have f1 := hown.frozen hlen t
            have s1 := hown.set hlen t (mxN t (gp xs) (i + 1))
            rw [getD_set_int2 _ t t _ (by rw [gpT_len]; exact hlt), if_pos rfl] at c1
            rw [getD_set_int2 _ t _ _ (by rw [gpT_len]; omega), if_neg (by omega), gpT_at xs N t _ (by omega), if_pos (by omega)] at c2
            rw [List.set_set, HM1.out] at s1
            have S1 := Lib.hid s1
            clear HBT0 hbit s1 hlen hown
            generalize ttN xs t i = T at *
            generalize xs.getD i 0 = x at *
            generalize mxN t (gp xs) i = M at *
            generalize gp xs (t - 2 ^ i) = G at *
            generalize 2 ^ i = p at *
            have p1 : (t : Int) - (p : Int) < (N : Int) := by omega
            have p2 : 0 ≤ (t : Int) - (p : Int) := by omega
            have p3 : ((t : Int) - (p : Int)).toNat = t - p := by omega
            go_wp2_with fail
            refine HBT.out.mono ?_
            rintro e w' ⟨rfl, rfl⟩
            go_wp2
            go_still_tail 15, (by kernel_rfl)
            have p4 : IntKind.i64.wrap ((t : Int) - (p : Int)) = (t : Int) - (p : Int) := IntWalk.i64_in _ (by omega)
            still_call HPW.out
            repeat still_step
            refine wpStill_nil ?_
            change wpList _ _ _ _ _ wi.drew
            clear p4
            have hmx : (if M < G then G else M) = max M G := by split <;> omega
            rw [hmx]
            have HSS := S1.out
            have f1' : wi.drew.frozen? ⟨w.heap.size, t, none⟩ = false := f1
            have c1' : wi.drew.cell? ⟨w.heap.size, t, none⟩ = some (.int .i64 M) := c1
            have o1 : Own (wi.drew.setCell ⟨w.heap.size, t, none⟩ (.int .i64 (max M G))) w.heap.size (sl w.heap.size N N) ((gpT xs N t).set t (max M G)) := HSS.1.kept (row := none) ⟨rfl, rfl, rfl, Nat.le_refl _, fun _ _ _ => rfl⟩ (.inr (by simp [Value.ownBlock]))
            have b1 : Below w.heap.size w (wi.drew.setCell ⟨w.heap.size, t, none⟩ (.int .i64 (max M G))) := hbl.drew.setCell (by exact Nat.le_refl _) _
            have O1 := Lib.hid o1
            have B1 := Lib.hid b1
            clear HSS o1 b1 S1 c1 c2 f1 hmx
            generalize max M G = mg at *
            generalize wi.drew = w2 at *
            go_wp2
            go_roundw
            case rel => exact ⟨i + 1, by omega, by go_num, by rw [HS1.out], by rw [HM1.out]; exact O1.out, B1.out⟩
            case measure => simp [intOf]; omega
          · have hb2 : bitN t i = 0 := by unfold bitN at *; omega
            rw [hb2] at HBT0
            have HBT := Lib.hid HBT0
            have HS1 : Hid (ttN xs t (i + 1) = ttN xs t i) := by show _ = _; rw [ttN, if_neg hbit]
            have HM1 : Hid (mxN t (gp xs) (i + 1) = mxN t (gp xs) i) := by show _ = _; rw [mxN, if_neg hbit]
            clear HBT0 hbit hb2
            go_wp2_with fail
            refine HBT.out.mono ?_
            rintro e w' ⟨rfl, rfl⟩
            go_wp2
            go_roundw
            case rel => exact ⟨i + 1, by omega, by go_num, by rw [HS1.out], by rw [HM1.out]; exact hown, hbl⟩
            case measure => simp [intOf]; omega
        · have hie : i = xs.length := by omega
          subst hie
          have HG := Lib.hid (gp_eq xs ht1)
          have HN2 := Lib.hid (gpT_next xs N t)
          have hmb := mxN_bounds (s := t) (F := gp xs) (m := t) (by omega) xs.length (fun j _ hj => by
            have h1 := bit_le hj
            have h2 := (gp_bounds xs (t - 2 ^ j) (t - 2 ^ j) (Nat.le_refl _)).2
            omega)
          have hlen : ((gpT xs N t).set t (mxN t (gp xs) xs.length)).length = N := by rw [List.length_set, gpT_len]
          have c1 := hown.cell hlen t hlt
          have f1 := hown.frozen hlen t
          have s1 := hown.set hlen t (mxN t (gp xs) xs.length + 1)
          rw [getD_set_int2 _ t t _ (by rw [gpT_len]; exact hlt), if_pos rfl] at c1
          rw [List.set_set] at s1
          have HOW := Lib.hid hown
          have S1 := Lib.hid s1
          clear hown s1 hlen
          generalize mxN t (gp xs) xs.length = M at *
          by_cases hz : ttN xs t xs.length = 0
          · have hzz : (ttN xs t xs.length == 0) = true := by simp [hz]
            have HO : Hid (Own (wi.setCell ⟨w.heap.size, t, none⟩ (.int .i64 (M + 1))) w.heap.size (sl w.heap.size N N) (gpT xs N (t + 1))) := by
              show Own _ _ _ _
              have h := HG.out
              rw [if_pos hz] at h
              rw [← HN2.out, h]; exact S1.out.1
            have b1 : Below w.heap.size w (wi.setCell ⟨w.heap.size, t, none⟩ (.int .i64 (M + 1))) := hbl.setCell (by exact Nat.le_refl _) _
            clear HG hz S1 HOW
            generalize ttN xs t xs.length = T at *
            go_wp2
            go_roundw
            case rel => exact ⟨t + 1, by omega, by omega, by go_num, HO.out, b1⟩
            case measure => simp [intOf]; omega
          · have hzz : (ttN xs t xs.length == 0) = false := by simp [hz]
            have HO : Hid (Own wi w.heap.size (sl w.heap.size N N) (gpT xs N (t + 1))) := by
              show Own _ _ _ _
              have h := HG.out
              rw [if_neg hz, Int.add_zero] at h
              rw [← HN2.out, h]; exact HOW.out
            clear HG hz S1 HOW
            generalize ttN xs t xs.length = T at *
            go_wp2
            go_roundw
            case rel => exact ⟨t + 1, by omega, by omega, by go_num, HO.out, hbl⟩
            case measure => simp [intOf]; omega
    · have hte : t = N := by omega
      subst hte
      have c1 := hown.cell (gpT_len xs t t) (t - 1) (by omega)
      rw [gpT_at xs t t _ (by omega), if_pos (by omega)] at c1
      have q1 : (t : Int) - 1 < (t : Int) := by omega
      have q2 : 0 ≤ (t : Int) - 1 := by omega
      have q3 : ((t : Int) - 1).toNat = t - 1 := by omega
      clear hown
      obtain ⟨G, hG⟩ : ∃ G, gp xs (t - 1) = G := ⟨_, rfl⟩
      rw [hG] at c1
      have HG := Lib.hid hG
      clear hG
      go_wp2
      go_ret
      exact ⟨ret_int HG.out.symm, hbl⟩

/-- What GroupsOf answers. -/
def groupsV (xs : List Int) : Int := if vBal xs = true then gp xs (2 ^ xs.length - 1) else -1
/-- What FewestPays answers. -/
def fewestV (xs : List Int) : Int := if vBal xs = true then xs.length - gp xs (2 ^ xs.length - 1) else -1

set_option maxHeartbeats 1600000 in
theorem GroupsOf_spec (v : Value) (xs : List Int) (w : World) (hv : IsInts w v xs) (hl : xs.length ≤ 9223372036854775807) :
    Calls Try.prog 35 #[v] w fun e w' => e = .returned (.int .i64 (groupsV xs)) ∧ Below w.heap.size w w' := by
  have H := Lib.hid (validBalances_spec v xs w hv hl)
  cases hd : vBal xs
  · have E : Hid (groupsV xs = -1) := by show groupsV xs = -1; rw [groupsV, hd]; rfl
    have h := H.out
    rw [hd] at h
    have H2 := Lib.hid h
    obtain ⟨a, cap, rfl, _⟩ := hv
    clear h hd
    go_enter Try.func35, Try.ntmps35
    go_wp2_with fail
    refine H2.out.mono ?_
    rintro e w' ⟨rfl, rfl⟩
    go_wp2
    go_ret
    exact ⟨ret_int E.out.symm, Below.refl _ _⟩
  · have E : Hid (groupsV xs = gp xs (2 ^ xs.length - 1)) := by show groupsV xs = _; rw [groupsV, if_pos hd]
    have h := H.out
    rw [hd] at h
    have H2 := Lib.hid h
    obtain ⟨hx, hn, _⟩ := (vBal_iff xs).1 hd
    have HB := Lib.hid (groupsOf_spec v xs w hv hx hn)
    obtain ⟨a, cap, rfl, _⟩ := hv
    clear h hd
    go_enter Try.func35, Try.ntmps35
    go_wp2_with fail
    refine H2.out.mono ?_
    rintro e w' ⟨rfl, rfl⟩
    go_wp2_with fail
    refine HB.out.mono ?_
    rintro e w' ⟨rfl, hb⟩
    go_wp2
    go_ret
    exact ⟨ret_int E.out.symm, hb⟩

set_option maxHeartbeats 1600000 in
theorem FewestPays_spec (v : Value) (xs : List Int) (w : World) (hv : IsInts w v xs) (hl : xs.length ≤ 9223372036854775807) :
    Calls Try.prog 39 #[v] w fun e w' => e = .returned (.int .i64 (fewestV xs)) ∧ Below w.heap.size w w' := by
  have H := Lib.hid (validBalances_spec v xs w hv hl)
  cases hd : vBal xs
  · have E : Hid (fewestV xs = -1) := by show fewestV xs = -1; rw [fewestV, hd]; rfl
    have h := H.out
    rw [hd] at h
    have H2 := Lib.hid h
    obtain ⟨a, cap, rfl, _⟩ := hv
    clear h hd
    go_enter Try.func39, Try.ntmps39
    go_wp2_with fail
    refine H2.out.mono ?_
    rintro e w' ⟨rfl, rfl⟩
    go_wp2
    go_ret
    exact ⟨ret_int E.out.symm, Below.refl _ _⟩
  · have E : Hid (fewestV xs = xs.length - gp xs (2 ^ xs.length - 1)) := by show fewestV xs = _; rw [fewestV, if_pos hd]
    have h := H.out
    rw [hd] at h
    have H2 := Lib.hid h
    obtain ⟨hx, hn, _⟩ := (vBal_iff xs).1 hd
    have hgb := gp_bounds xs _ (2 ^ xs.length - 1) (Nat.le_refl _)
    have hp := pow_le6 hn.2
    have HB := Lib.hid (groupsOf_spec v xs w hv hx hn)
    obtain ⟨a, cap, rfl, _⟩ := hv
    clear h hd hx
    go_enter Try.func39, Try.ntmps39
    go_wp2_with fail
    refine H2.out.mono ?_
    rintro e w' ⟨rfl, rfl⟩
    go_wp2_with fail
    refine HB.out.mono ?_
    rintro e w' ⟨rfl, hb⟩
    obtain ⟨G, hG⟩ : ∃ G, gp xs (2 ^ xs.length - 1) = G := ⟨_, rfl⟩
    rw [hG] at hgb ⊢
    have HG := Lib.hid hG
    clear hG
    go_wp2
    go_ret
    exact ⟨ret_int (by rw [E.out, HG.out]), hb⟩

end Go.Proofs.Ytbedjebnllimpaa
