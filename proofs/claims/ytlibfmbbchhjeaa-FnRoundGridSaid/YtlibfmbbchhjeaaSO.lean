/- Tables that the laws make, mark and hold. -/
import Derived.Test.YtlibfmbbchhjeaaOwnI
import Derived.Test.YtlibfmbbchhjeaaOwnH
import Derived.Test.YtlibfmbbchhjeaaRoundI
import Derived.Test.YtlibfmbbchhjeaaEIsRounded
namespace Go.Proofs.Ytlibfmbbchhjeaa
open Go.RowKit Flat

/-- How many numbers lie in the first rows. -/
def pre (o : List (List Int)) : Nat → Nat
  | 0 => 0
  | i + 1 => pre o i + (rowOf o i).length

theorem pre_mono (o : List (List Int)) {i n : Nat} (h : i ≤ n) : pre o i ≤ pre o n := by
  induction h with
  | refl => exact Nat.le_refl _
  | step _ ih => exact Nat.le_trans ih (Nat.le_add_right _ _)

set_option maxRecDepth 100000 in
set_option maxHeartbeats 1600000 in
theorem szIntSS_sum (v : Value) (g : List (List Int)) (l : Int) (w : World) (hv : IsGrid w v g) (hl : g.length ≤ 9223372036854775807) (hr : ∀ i, i < g.length → (rowOf g i).length ≤ 9223372036854775807) (h0 : 0 ≤ l ∧ l ≤ 1048576) :
    Calls Try.prog 46 #[v, .int .i64 l] w fun e w' => ∃ r : Int, e = .returned (.int .i64 r) ∧ (r = -1 ∨ (0 ≤ r ∧ r ≤ l ∧ Sized g ∧ pre g g.length ≤ 1048576)) ∧ w = w' := by
  obtain ⟨a, cap, rfl, _⟩ := id hv
  by_cases hb : (l : Int) < (g.length : Int)
  · go_enter Try.func46, Try.ntmps46
    go_wp2
    go_ret
    exact ⟨_, rfl, .inl rfl, rfl⟩
  · have hb2 : ¬ (l - (g.length : Int) < 0) := by omega
    go_enter Try.func46, Try.ntmps46
    go_wp2
    go_loop [1, 5] (fun c s => ∃ (i : Nat) (r : Int), i ≤ g.length ∧ s = .int .i64 i ∧ c = .int .i64 r ∧ 0 ≤ r ∧ r ≤ l ∧ r + (pre g i : Int) ≤ l ∧ ∀ j, j < i → (rowOf g j).length ≤ 1048576) (fun _ s => g.length - (intOf s).toNat)
    case atStart => exact ⟨0, l - g.length, Nat.zero_le _, rfl, by go_num, by omega, by omega, by simp [pre]; omega, fun j hj => by omega⟩
    case round =>
      obtain ⟨i, r, hi, rfl, rfl, hr0, hr1, hpr, hok⟩ := hrel
      have HP := Lib.hid hpr
      clear hpr
      have HOK := Lib.hid hok
      clear hok
      by_cases hlt : i < g.length
      · obtain ⟨b, off, ar, cr, rfl, ci, _⟩ := hv.row i hlt
        have i1 : (i : Int) < (g.length : Int) := by omega
        have hri := hr i hlt
        by_cases hc : r < ((rowOf g i).length : Int)
        · have hd : r - ((rowOf g i).length : Int) < 0 := by omega
          go_wp2
          go_ret
          exact ⟨_, rfl, .inl rfl, rfl⟩
        · have hd : ¬ (r - ((rowOf g i).length : Int) < 0) := by omega
          go_wp2
          go_round
          case rel =>
            refine ⟨i + 1, r - (rowOf g i).length, by omega, by go_num, by go_num, by omega, by omega, by have := HP.out; simp only [pre, Int.natCast_add]; omega, fun j hj => ?_⟩
            by_cases hji : j = i
            · subst hji; omega
            · exact HOK.out j (by omega)
          case measure => simp [intOf]; omega
      · have hie : i = g.length := by omega
        have H : Hid (Sized g ∧ pre g g.length ≤ 1048576) := ⟨⟨by omega, fun j hj => HOK.out j (by omega)⟩, by have := HP.out; rw [hie] at this; omega⟩
        go_wp2
        go_ret
        exact ⟨_, rfl, .inr ⟨hr0, hr1, H.out⟩, rfl⟩

set_option maxRecDepth 100000 in
set_option maxHeartbeats 1600000 in
theorem toIntSS_own (v : Value) (g : List (List Int)) (w : World) (hv : IsGrid w v g) (hs : Sized g) :
    Calls Try.prog 47 #[v] w fun e w' => ∃ v', e = .returned v' ∧ OwnT w' w.heap.size v' g ∧ Below w.heap.size w w' := by
  obtain ⟨a, cap, rfl, _⟩ := id hv
  have hl := hs.1
  obtain ⟨i0, hi, hz0, hz1, hz2⟩ := info_parts infoInts
  go_enter Try.func47, Try.ntmps47
  go_wp2_with (at_make; refine wpList_make_full _ rfl _ _ 38 rfl w.heap.size 23 i0 (.slice none 0 0) 1 Try.underlying38 hi hz0 hz1 _ _ _ _ g.length rfl rfl rfl rfl ?b2 ?b3 (Nat.le_refl _) ?_)
  case b2 => rw [hz2]; omega
  case b3 => unfold maxLen; omega
  intro w0 hown0 hgrow0
  have hb0 : Below w.heap.size w w0 := below_grown hgrow0 (Nat.le_refl _) (fun k h => by cases h)
  have hsz : w.heap.size ≤ w0.heap.size := hb0.size
  have hw0 : w0.ownsRow w.heap.size 23 1 (.slice (some ⟨w.heap.size, 0, none⟩) g.length g.length) g.length (([] : List Value) ++ List.replicate (g.length - 0) (Value.slice none 0 0)) := by
    rw [toList_madeCells_one] at hown0
    simpa using hown0
  clear hown0 hgrow0
  go_wp2
  go_loopw [4] (fun s wr => ∃ (i : Nat) (vs : List Value), i ≤ g.length ∧ s = .int .i64 i ∧ vs.length = i ∧ wr.ownsRow w.heap.size 23 1 (.slice (some ⟨w.heap.size, 0, none⟩) g.length g.length) g.length (vs ++ List.replicate (g.length - i) (Value.slice none 0 0)) ∧ (∀ j, j < i → Own wr (w.heap.size + 1) (vs.getD j undef) (rowOf g j)) ∧ (∀ j k, j < i → k < i → j ≠ k → apartB (vs.getD j undef) (vs.getD k undef)) ∧ Below w.heap.size w wr)
    (fun s _ => g.length - (intOf s).toNat)
  case atStart => exact ⟨0, [], Nat.zero_le _, rfl, rfl, hw0, fun j hj => by omega, fun j k hj => by omega, hb0⟩
  case round =>
    clear hw0 hb0 hsz
    obtain ⟨i, vs, hi', rfl, hvl, hown, hrows, hap, hbl⟩ := hrel
    by_cases hlt : i < g.length
    · have hvr := hv.below hbl
      obtain ⟨b, off, ar, cr, rfl, ci, cc⟩ := hvr.row i hlt
      have hrow : IsInts wr (.slice ar (rowOf g i).length cr) (rowOf g i) := ⟨ar, cr, rfl, cc⟩
      have i1 : (i : Int) < (g.length : Int) := by omega
      have hsi := hs.2 i hlt
      have hdst : wr.cell? ⟨w.heap.size, i, none⟩ = some (.slice none 0 0) := by
        rw [hown.cellAt i (by omega), List.getElem?_append_right (by omega), List.getElem?_replicate, if_pos (by omega)]
      have hfr : wr.frozen? ⟨w.heap.size, i, none⟩ = false := hown.frozenAt i
      have hBr : w.heap.size < wr.heap.size := World.block_lt_of_cell? wr ⟨w.heap.size, i, none⟩ hdst
      clear hvr cc
      go_wp2_with fail
      refine (toIntS_any _ (rowOf g i) _ hrow hsi).mono ?_
      rintro e w1 ⟨v1, rfl, ho1, hb1⟩
      obtain ⟨ax, cx, rfl, _⟩ := id ho1.ints
      have hown1 := World.ownsRow.kept hown (grown_below hb1 none) (.inr (by simp [Value.ownBlock]))
      have hdst1 : w1.cell? ⟨w.heap.size, i, none⟩ = some (.slice none 0 0) := (hb1.cell (p := ⟨w.heap.size, i, none⟩) hBr).trans hdst
      have hfr1 : w1.frozen? ⟨w.heap.size, i, none⟩ = false := hown1.frozenAt i
      have hst := hown1.stored i (.slice ax (rowOf g i).length cx)
      rw [set_vals vs (.slice ax (rowOf g i).length cx) g.length i hvl hlt] at hst
      have hbl1 : Below w.heap.size w w1 := hbl.trans (hb1.mono hbl.size)
      have hb2 : Below w.heap.size w (w1.setCell ⟨w.heap.size, i, none⟩ (.slice ax (rowOf g i).length cx)) := hbl1.setCell (by exact Nat.le_refl _) _
      have hrows2 : ∀ j, j < i + 1 → Own (w1.setCell ⟨w.heap.size, i, none⟩ (.slice ax (rowOf g i).length cx)) (w.heap.size + 1) ((vs ++ [Value.slice ax (rowOf g i).length cx]).getD j undef) (rowOf g j) := by
        intro j hj
        have hne : ∀ (v : Value) (xs : List Int), Own w1 (w.heap.size + 1) v xs → Own (w1.setCell ⟨w.heap.size, i, none⟩ (.slice ax (rowOf g i).length cx)) (w.heap.size + 1) v xs := fun v xs h => h.kept hst.2 (by
          cases hv : v.ownBlock with
          | none => exact .inl rfl
          | some k => exact .inr (by intro e; have := (h.lt k hv).1; simp at e; omega))
        by_cases hji : j = i
        · rw [hji]
          rw [show (vs ++ [Value.slice ax (rowOf g i).length cx]).getD i undef = Value.slice ax (rowOf g i).length cx by simp [List.getD, hvl]]
          exact hne _ _ (ho1.base (by omega))
        · rw [show (vs ++ [Value.slice ax (rowOf g i).length cx]).getD j undef = vs.getD j undef by simp [List.getD, List.getElem?_append_left (show j < vs.length by omega)]]
          exact hne _ _ ((hrows j (by omega)).below hb1)
      have hap2 : ∀ j k, j < i + 1 → k < i + 1 → j ≠ k → apartB ((vs ++ [Value.slice ax (rowOf g i).length cx]).getD j undef) ((vs ++ [Value.slice ax (rowOf g i).length cx]).getD k undef) := by
        have hn : ∀ j, j < i → apartB (vs.getD j undef) (Value.slice ax (rowOf g i).length cx) := fun j hj => apartB_of (fun k hk => ((hrows j hj).lt k hk).2) (fun k hk => (ho1.lt k hk).1)
        have e1 : (vs ++ [Value.slice ax (rowOf g i).length cx]).getD i undef = Value.slice ax (rowOf g i).length cx := by simp [List.getD, hvl]
        have e2 : ∀ j, j < i → (vs ++ [Value.slice ax (rowOf g i).length cx]).getD j undef = vs.getD j undef := fun j hj => by simp [List.getD, List.getElem?_append_left (show j < vs.length by omega)]
        intro j k hj hk hjk
        by_cases hji : j = i
        · rw [hji, e1, e2 k (by omega)]; exact (hn k (by omega)).symm
        · rw [e2 j (by omega)]
          by_cases hki : k = i
          · rw [hki, e1]; exact hn j (by omega)
          · rw [e2 k (by omega)]; exact hap j k (by omega) (by omega) hjk
      have H3 := Lib.hid hap2
      have H1 := Lib.hid hst.1
      have H2 := Lib.hid hrows2
      clear hst hrows2 hrows hap hap2 hown hown1 hdst hfr ho1 hrow ci hb1
      go_wp2
      go_roundw
      case rel => exact ⟨i + 1, vs ++ [Value.slice ax (rowOf g i).length cx], by omega, by go_num, by simp [hvl], H1.out, H2.out, H3.out, hb2⟩
      case measure => simp [intOf]; omega
    · have hie : i = g.length := by omega
      subst hie
      rw [Nat.sub_self, List.replicate_zero, List.append_nil] at hown
      have hG : Hid (OwnT wr w.heap.size (.slice (some ⟨w.heap.size, 0, none⟩) g.length g.length) g) :=
        ⟨vs, hvl, hown, fun j hj => ⟨(hrows j hj).base (by omega), .inr (by
          intro e
          have := ((hrows j hj).lt w.heap.size (by rw [e]; rfl)).1
          omega)⟩, fun j k hj hk hjk => hap j k hj hk hjk⟩
      clear hrows hown hap
      go_wp2
      go_ret
      exact ⟨_, rfl, hG.out, hbl⟩

/-- What other tables keep when rows in the blocks from B up to H are written. -/
def Spares (B H : Nat) (w w' : World) : Prop := Below B w w' ∧ ∀ B' v' vs' o', OwnTV w B' v' vs' o' → H ≤ B' → OwnTV w' B' v' vs' o'

theorem Spares.refl (B H : Nat) (w : World) : Spares B H w w := ⟨Below.refl _ _, fun _ _ _ _ h _ => h⟩

theorem Spares.grown {B H : Nat} {w w1 w2 : World} {row : Option Nat} (h : Spares B H w w1) (hg : w1.grownBy w2 row) (hB : B ≤ w1.heap.size) (hr : ∀ k, row = some k → B ≤ k ∧ k < H) : Spares B H w w2 := by
  refine ⟨h.1.trans (below_grown hg hB (fun k hk => (hr k hk).1)), fun B' v' vs' o' ho hH => ?_⟩
  have h1 := h.2 B' v' vs' o' ho hH
  have hne : ∀ x : Value, (∀ k, x.ownBlock = some k → B' ≤ k) → x.ownBlock = none ∨ x.ownBlock ≠ row := fun x hx => by
    cases hb : x.ownBlock with
    | none => exact .inl rfl
    | some k =>
      refine .inr fun e => ?_
      have := (hr k e.symm).2
      have := hx k hb
      omega
  exact h1.kept hg (hne _ (fun k hk => (h1.lt.1 k hk).1)) (fun i hi => hne _ (fun k hk => (h1.lt.2 i hi k hk).1))

/-- The first rows are marked. -/
def MarkedT (q : Int) (o : List (List Int)) (i : Nat) (o' : List (List Int)) : Prop :=
  o'.length = o.length ∧ (∀ j, j < i → rowOf o' j = marks (q + pre o j) (rowOf o j).length) ∧ ∀ j, i ≤ j → j < o.length → rowOf o' j = rowOf o j

theorem MarkedT.next {q : Int} {o o' : List (List Int)} {i : Nat} (h : MarkedT q o i o') (hi : i < o.length) : MarkedT q o (i + 1) (o'.set i (marks (q + pre o i) (rowOf o i).length)) := by
  obtain ⟨hl, h1, h2⟩ := h
  have hr : ∀ j, j < o'.length → rowOf (o'.set i (marks (q + pre o i) (rowOf o i).length)) j = if j = i then marks (q + pre o i) (rowOf o i).length else rowOf o' j := by
    intro j hj
    by_cases e : j = i
    · subst e; simp [rowOf, List.getD, hj]
    · have e' : ¬ i = j := fun x => e x.symm
      simp [rowOf, List.getD, e, e']
  refine ⟨by simp [hl], fun j hj => ?_, fun j hj hjl => ?_⟩
  · rw [hr j (by omega)]
    by_cases e : j = i
    · subst e; rw [if_pos rfl]
    · rw [if_neg e]; exact h1 j (by omega)
  · rw [hr j (by omega), if_neg (by omega)]; exact h2 j (by omega) hjl

/-- A row is written where it lies. -/
theorem OwnTV.mark {w w' : World} {B : Nat} {v : Value} {vs : List Value} {o : List (List Int)} (h : OwnTV w B v vs o) {i : Nat} (hi : i < o.length) {r : List Int} (hg : w.grownBy w' (vs.getD i undef).ownBlock) (hrow : Own w' B (vs.getD i undef) r) : OwnTV w' B v vs (o.set i r) := by
  obtain ⟨hl, hown, hrows, hd⟩ := h
  have hr : ∀ j, j < o.length → rowOf (o.set i r) j = if j = i then r else rowOf o j := by
    intro j hj
    by_cases e : j = i
    · subst e; simp [rowOf, List.getD, hj]
    · have e' : ¬ i = j := fun x => e x.symm
      simp [rowOf, List.getD, e, e']
  refine ⟨by simp [hl], by rw [List.length_set]; exact World.ownsRow.kept hown hg (hrows i hi).2.symm, fun j hj => ?_, fun j k hj hk hjk => hd j k (by simpa using hj) (by simpa using hk) hjk⟩
  rw [List.length_set] at hj
  rw [hr j hj]
  by_cases e : j = i
  · subst e; rw [if_pos rfl]; exact ⟨hrow, (hrows j hj).2⟩
  · rw [if_neg e]; exact ⟨(hrows j hj).1.kept hg (hd j i hj hi e), (hrows j hj).2⟩

set_option maxRecDepth 100000 in
set_option maxHeartbeats 1600000 in
/-- Marks are written into all rows of a table of the call's own. -/
theorem markIntSS_any (v : Value) (vs : List Value) (o : List (List Int)) (q : Int) (B H : Nat) (w : World) (hv : OwnTV w B v vs o) (hB : B ≤ w.heap.size) (hH : ∀ i, i < o.length → ∀ k, (vs.getD i undef).ownBlock = some k → k < H) (hs : Sized o) (hq0 : 0 ≤ q) (hq : q + (pre o o.length : Int) ≤ 4294967296) :
    Calls Try.prog 49 #[v, .int .i64 q] w fun e w' => e = .returned (.int .i64 (q + (pre o o.length : Int))) ∧ (∃ o', OwnTV w' B v vs o' ∧ MarkedT q o o.length o') ∧ Spares B H w w' := by
  have hs1 := hs.1
  rcases id hv.2.1.2 with ⟨rfl, hn⟩ | ⟨b, cap, cur, rfl, _⟩
  · have hx : o = [] := List.length_eq_zero_iff.1 hn
    subst hx
    go_enter Try.func49, Try.ntmps49
    go_wp2
    refine wp_loop_rounds 1 ?_
    rw [rounds_succ]
    go_wp2
    go_ret
    exact ⟨ret_int (by simp [pre]), ⟨[], hv, rfl, fun j hj => absurd hj (Nat.not_lt_zero _), fun j _ hj => absurd hj (Nat.not_lt_zero _)⟩, Spares.refl _ _ _⟩
  · have HV := Lib.hid hv
    have HS := Lib.hid hs
    clear hv hs
    go_enter Try.func49, Try.ntmps49
    go_wp2
    go_loopw [1, 5] (fun q' s wr => ∃ i : Nat, i ≤ o.length ∧ s = .int .i64 i ∧ q' = .int .i64 (q + (pre o i : Int)) ∧ (∃ o', OwnTV wr B (.slice (some ⟨b, 0, none⟩) o.length cap) vs o' ∧ MarkedT q o i o') ∧ Spares B H w wr) (fun _ s _ => o.length - (intOf s).toNat)
    case atStart => exact ⟨0, Nat.zero_le _, rfl, by simp [pre], ⟨o, HV.out, rfl, fun j hj => absurd hj (Nat.not_lt_zero _), fun j _ _ => rfl⟩, Spares.refl _ _ _⟩
    case round =>
      obtain ⟨i, hi, rfl, rfl, ⟨o', hvo, hm⟩, hsp⟩ := hrel
      by_cases hlt : i < o.length
      · have i1 : (i : Int) < (o.length : Int) := by omega
        have hml := hm.1
        have hown0 : wr.ownsRow B 23 1 (.slice (some ⟨b, 0, none⟩) o.length cap) o.length vs := by have := hvo.2.1; rwa [hml] at this
        have cn := World.ownsRow.cellAt hown0 i (by omega)
        clear hown0
        rw [show vs[i]? = some (vs.getD i undef) by rw [List.getD_eq_getElem?_getD, List.getElem?_eq_getElem (by rw [hvo.1]; omega)]; rfl] at cn
        have hrow := (hvo.2.2.1 i (by omega)).1
        rw [hm.2.2 i (Nat.le_refl _) hlt] at hrow
        have hlen := HS.out.2 i hlt
        have hp1 : q + (pre o i : Int) ≤ 4294967296 := by have := pre_mono o hi; omega
        have C := markIntS_any _ _ (q + (pre o i : Int)) B _ hrow hlen (by omega) hp1
        have HC := Lib.hid C
        have HO := Lib.hid hvo
        have HM := Lib.hid hm
        generalize hrvv : vs.getD i undef = rv at *
        clear C hvo hm hrow hml
        go_wp2_with (go_at_call 44; refine HC.out.mono ?_)
        rintro e w1 ⟨rfl, ho1, hg1⟩
        rw [← hrvv] at ho1 hg1
        have h1 := HO.out.mark (by rw [HM.out.1]; exact hlt) hg1 ho1
        have h2 := HM.out.next hlt
        have h3 := hsp.grown hg1 (Nat.le_trans hB hsp.1.size) (fun k hk => ⟨(ho1.lt k hk).1, hH i hlt k hk⟩)
        have H1 := Lib.hid h1
        have H2 := Lib.hid h2
        clear h1 h2 ho1 hg1
        go_wp2
        go_roundw
        case rel => exact ⟨i + 1, by omega, by go_num, by simp only [pre, Int.natCast_add]; go_num, ⟨_, H1.out, H2.out⟩, h3⟩
        case measure => simp [intOf]; omega
      · have hie : i = o.length := by omega
        subst hie
        have H1 : Hid (∃ o', OwnTV wr B (.slice (some ⟨b, 0, none⟩) o.length cap) vs o' ∧ MarkedT q o o.length o') := ⟨o', hvo, hm⟩
        clear hvo hm
        go_wp2
        go_ret
        exact ⟨rfl, H1.out, hsp⟩

set_option maxRecDepth 100000 in
set_option maxHeartbeats 1600000 in
/-- Marks that are still there are told. -/
theorem heldIntSS_any (v : Value) (o o' : List (List Int)) (q : Int) (w : World) (hv : IsGrid w v o') (hm : MarkedT q o o.length o') (hs : Sized o) (hq0 : 0 ≤ q) (hq : q + (pre o o.length : Int) ≤ 4294967296) :
    Calls Try.prog 50 #[v, .int .i64 q] w fun e w' => e = .returned (.int .i64 (q + (pre o o.length : Int))) ∧ w = w' := by
  obtain ⟨a, cap, rfl, _⟩ := id hv
  have hs1 := hs.1
  have HS := Lib.hid hs
  have HV := Lib.hid hv
  have hml := hm.1
  have HM := Lib.hid hm
  clear hs hv hm
  rw [hml] at HV ⊢
  clear hml
  go_enter Try.func50, Try.ntmps50
  go_wp2
  go_loop [1, 5] (fun q' s => ∃ i : Nat, i ≤ o.length ∧ s = .int .i64 i ∧ q' = .int .i64 (q + (pre o i : Int))) (fun _ s => o.length - (intOf s).toNat)
  case atStart => exact ⟨0, Nat.zero_le _, rfl, by simp [pre]⟩
  case round =>
    obtain ⟨i, hi, rfl, rfl⟩ := hrel
    by_cases hlt : i < o.length
    · have i1 : (i : Int) < (o.length : Int) := by omega
      obtain ⟨b, off, ar, cr, rfl, ci, cc⟩ := HV.out.row i (by rw [HM.out.1]; exact hlt)
      have hrow : IsInts w (.slice ar (rowOf o' i).length cr) (rowOf o' i) := ⟨ar, cr, rfl, cc⟩
      rw [HM.out.2.1 i hlt] at hrow ci
      rw [marks_length] at hrow ci
      have hlen := HS.out.2 i hlt
      have hp1 : q + (pre o i : Int) ≤ 4294967296 := by have := pre_mono o hi; omega
      have C := heldIntS_any _ _ (q + (pre o i : Int)) w hrow hlen (by omega) hp1
      have HC := Lib.hid C
      have hn : ¬ (q + (pre o i : Int) + ((rowOf o i).length : Int) < 0) := by omega
      clear C hrow cc
      go_wp2_with fail
      refine HC.out.mono ?_
      rintro e w1 ⟨rfl, rfl⟩
      go_wp2
      go_round
      case rel => exact ⟨i + 1, by omega, by go_num, by simp only [pre, Int.natCast_add]; go_num⟩
      case measure => simp [intOf]; omega
    · have hie : i = o.length := by omega
      subst hie
      go_wp2
      go_ret
      exact ⟨rfl, rfl⟩

end Go.Proofs.Ytlibfmbbchhjeaa
