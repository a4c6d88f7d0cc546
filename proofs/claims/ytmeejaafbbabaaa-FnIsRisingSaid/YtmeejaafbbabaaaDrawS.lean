/- Drawn steps and incomes. -/
import Derived.Test.YtmeejaafbbabaaaReadH
import Derived.Test.YtmeejaafbbabaaaOwnS
import Derived.Deep.RegionHeld3
namespace Go.Proofs.Ytmeejaafbbabaaa
open Go.RowKit

/-- append(s, step) on a slice of steps of the call's own. -/
theorem wpList_pushS {ops : Array Oper} {rest : List Oper} {o : Oper} {a : Act} {Q : Exit → Act → World → Prop} {wr : World} {s x : Operand} {B : Nat} {v : Value} {st : List (Int × Int)} {f r : Int}
    (hown : OwnS wr B v st) (hlen : st.length ≤ 1048576) (hB : B ≤ wr.heap.size) (hgd : o.guard = none := by rfl)
    (ho : o.op = .call { callee := .builtin .append, args := #[s, x], argTypes := #[23, 23] } := by rfl)
    (hs : a.eval s = v := by rfl) (hx : a.eval x = .slice (some ⟨wr.heap.size, 0, none⟩) 1 1 := by rfl)
    (h : ∀ v' w', OwnS w' B v' (st ++ [(f, r)]) → wr.grownBy w' v.ownBlock → Moved wr v v' → wpList Try.prog ops Q rest (a.put o.dst v') w') :
    wpList Try.prog ops Q (o :: rest) a (wr.alloc (.cells #[.int .i64 f, .int .i64 r] 33)) := by
  obtain ⟨i0, hi, hz0, hz1, hz2⟩ := info_parts infoStep
  have hbx := IsBox.new wr f r
  refine wpList_append_own_at _ hgd s x 23 ho B 33 i0 (.agg #[.int .i64 0, .int .i64 0]) 2 16 Try.underlying23 hi hz0 hz1 hz2 rfl (by decide) v st.length (cellsS st) hs (World.ownsRow.alloc hown _) ⟨wr.heap.size, 0, none⟩ 1 1 [.int .i64 f, .int .i64 r] hx rfl ?_ (by intro u hu; simp at hu; rcases hu with rfl | rfl <;> rfl) (by unfold maxLen; omega) (by omega) (by simp; omega) ?_
  · intro j u hj
    match j with
    | 0 => simp at hj; subst hj; simp [Addr.add]
    | 1 => simp at hj; subst hj; simp [Addr.add]
    | j + 2 => simp at hj
  · intro v' w' h1 h2 _ h4
    refine h v' w' ?_ ((World.grownBy_alloc wr _ _).trans h2) ?_
    · unfold OwnS
      rw [cellsS_append, List.length_append]
      exact h1
    · rcases h4 with h4 | h4
      · exact .inl h4
      · exact .inr ⟨_, h4, by simp⟩

set_option maxHeartbeats 800000 in
theorem anIncome_any (B R : Nat) (a : Option Addr) (q : Nat) (w : World) (h : HasReader w B R a q) (hq : q ≤ 900000) :
    Calls Try.prog 54 #[.pointer (some ⟨R, 0, none⟩)] w fun e w' => ∃ y, e = .returned (.int .i64 y) ∧ (-1 ≤ y ∧ y ≤ 2001) ∧ HasReader w' B R a (q + 3) ∧ w.grownBy w' (some R) := by
  go_enter Try.func54, Try.ntmps54
  go_wp2_with fail
  refine (pick_has 256 B R a q _ h (by omega) (by omega)).mono ?_
  rintro e w1 ⟨y1, rfl, ⟨p0, p1, _⟩, h1, g1⟩
  have p2 := p1 (by omega)
  go_wp2_with fail
  refine (pick_has 256 B R a (q + 1) _ h1 (by omega) (by omega)).mono ?_
  rintro e w2 ⟨y2, rfl, ⟨r0, r1, _⟩, h2, g2⟩
  have r2 := r1 (by omega)
  clear p1 r1
  go_wp2_with fail
  refine (one_lit [4 * y1, y2, 1000, 0, 2000, 2001, -1] _ 7 rfl rfl _ B R a (q + 1 + 1) _ h2 (by omega) (by simp) (by simp) rfl).mono ?_
  rintro e w3 ⟨y, rfl, hy, h3, g3⟩
  have hb : -1 ≤ y ∧ y ≤ 2001 := by
    simp only [List.mem_cons, List.not_mem_nil, or_false] at hy
    omega
  clear hy
  go_wp2
  go_ret
  exact ⟨_, rfl, hb, h3.more (by omega), (g1.trans g2).trans g3⟩

theorem own_litS (w : World) (B : Nat) (f r : Int) (hB : B ≤ w.heap.size) : OwnS (w.alloc (.cells #[.int .i64 f, .int .i64 r] 33)) B (slS w.heap.size 1 1) [(f, r)] :=
  World.ownsRow_lit (e := 33) (size := 2) w #[.int .i64 f, .int .i64 r] 1 hB (by unfold maxLen; omega) rfl

theorem own_emptyS (w : World) (B : Nat) (hB : B ≤ w.heap.size) : OwnS (w.alloc (.cells #[] 33)) B (slS w.heap.size 0 0) [] :=
  World.ownsRow_lit w #[] 0 hB (by unfold maxLen; omega) rfl

theorem OwnS.neBlock {w : World} {B R : Nat} {v : Value} {st : List (Int × Int)} (h : OwnS w B v st) (hR : R < B) : v.ownBlock ≠ some R := fun e => by
  have := (h.lt R e).1
  omega

theorem OwnS.form {w : World} {B : Nat} {v : Value} {st : List (Int × Int)} (h : OwnS w B v st) (hl : 0 < st.length) : ∃ g cap, v = slS g st.length cap ∧ B ≤ g ∧ g < w.heap.size := by
  rcases h.2 with ⟨_, hn⟩ | ⟨g, cap, cur, rfl, hg, hh, _⟩
  · omega
  · exact ⟨g, cap, rfl, hg, (Array.getElem?_eq_some_iff.1 hh).1⟩

theorem HasReader.drew {w : World} {B R : Nat} {a : Option Addr} {q : Nat} (h : HasReader w B R a q) : HasReader w.drew B R a q := by
  obtain ⟨n, cap, p, hr, hp⟩ := h
  exact ⟨n, cap, p, ⟨hr.block, hr.bytes, hr.low, hr.base, hr.len⟩, hp⟩

theorem cellsS_set1 (st : List (Int × Int)) (j : Nat) (hj : j < st.length) (r : Int) : (cellsS st).set (j * 2 + 1) (.int .i64 r) = cellsS (st.set j (frm st j, r)) := by
  induction st generalizing j with
  | nil => simp at hj
  | cons p st ih =>
    cases j with
    | zero => simp [cellsS_cons, frm]
    | succ j =>
      have := ih j (by simpa using hj)
      rw [cellsS_cons, show (j + 1) * 2 + 1 = j * 2 + 1 + 1 + 1 by omega, List.set_cons_succ, List.set_cons_succ, this, List.set_cons_succ, cellsS_cons]
      simp [frm]

theorem OwnS.setFrom {w : World} {B g n cap : Nat} {st : List (Int × Int)} (h : OwnS w B (slS g n cap) st) (hn : st.length = n) (j : Nat) (hj : j < n) (f : Int) :
    OwnS (w.setCell ⟨g, j * 2, none⟩ (.int .i64 f)) B (slS g n cap) (st.set j (f, rat st j)) ∧ w.grownBy (w.setCell ⟨g, j * 2, none⟩ (.int .i64 f)) (some g) := by
  subst hn
  have h1 := World.ownsRow.stored h (j * 2) (.int .i64 f)
  refine ⟨?_, h1.2⟩
  unfold OwnS
  rw [List.length_set, ← cellsS_set0 st j hj]
  exact h1.1
theorem OwnS.setRate {w : World} {B g n cap : Nat} {st : List (Int × Int)} (h : OwnS w B (slS g n cap) st) (hn : st.length = n) (j : Nat) (hj : j < n) (r : Int) :
    OwnS (w.setCell ⟨g, j * 2 + 1, none⟩ (.int .i64 r)) B (slS g n cap) (st.set j (frm st j, r)) ∧ w.grownBy (w.setCell ⟨g, j * 2 + 1, none⟩ (.int .i64 r)) (some g) := by
  subst hn
  have h1 := World.ownsRow.stored h (j * 2 + 1) (.int .i64 r)
  refine ⟨?_, h1.2⟩
  unfold OwnS
  rw [List.length_set, ← cellsS_set1 st j hj]
  exact h1.1
theorem OwnS.at {w : World} {B g n cap : Nat} {st : List (Int × Int)} (h : OwnS w B (slS g n cap) st) (hn : st.length = n) (j : Nat) (hj : j < n) :
    (w.cell? ⟨g, j * 2, none⟩ = some (.int .i64 (frm st j)) ∧ w.cell? ⟨g, j * 2 + 1, none⟩ = some (.int .i64 (rat st j))) ∧ w.frozen? ⟨g, j * 2, none⟩ = false ∧ w.frozen? ⟨g, j * 2 + 1, none⟩ = false := by
  subst hn
  exact ⟨⟨(World.ownsRow.cellAt h (j * 2) (by omega)).trans (cellsS_at st j hj).1, (World.ownsRow.cellAt h (j * 2 + 1) (by omega)).trans (cellsS_at st j hj).2⟩, World.ownsRow.frozenAt h _, World.ownsRow.frozenAt h _⟩

theorem grown_from_drew {w w' : World} {row : Option Nat} (h : w.drew.grownBy w' row) : w.grownBy w' row := ⟨h.os, h.tape, h.output, h.size, h.block⟩

theorem rates_push {st : List (Int × Int)} {f r : Int} (h : ∀ j, j < st.length → 0 ≤ rat st j ∧ rat st j ≤ 100) (hr : 0 ≤ r ∧ r ≤ 100) : ∀ j, j < (st ++ [(f, r)]).length → 0 ≤ rat (st ++ [(f, r)]) j ∧ rat (st ++ [(f, r)]) j ≤ 100 := by
  intro j hj
  by_cases e : j < st.length
  · have := h j e
    simpa [rat, List.getD, List.getElem?_append_left e] using this
  · have e2 : j = st.length := by simp at hj; omega
    subst e2
    simpa [rat, List.getD] using hr

set_option maxRecDepth 100000 in
set_option maxHeartbeats 3200000 in
theorem someSteps_any (B R : Nat) (a : Option Addr) (q : Nat) (w : World) (h : HasReader w B R a q) (hq : q ≤ 800000) :
    Calls Try.prog 49 #[.pointer (some ⟨R, 0, none⟩)] w fun e w' => ∃ v st, e = .returned v ∧ OwnS w' w.heap.size v st ∧ st.length ≤ 6 ∧ HasReader w' B R a (q + 100) ∧ w.grownBy w' (some R) := by
  have hRl := h.lt
  go_enter Try.func49, Try.ntmps49
  go_wp2_with fail
  refine (one_lit [0, 10, 20, 5] _ 4 rfl rfl _ B R a q _ h (by omega) (by simp) (by simp) rfl).mono ?_
  rintro e w1 ⟨y, rfl, hy, h1, g1⟩
  have hyb : 0 ≤ y ∧ y ≤ 100 := by
    simp only [List.mem_cons, List.not_mem_nil, or_false] at hy
    omega
  clear hy
  go_wp2_with fail
  have o1 := own_litS w1 w.heap.size 0 y g1.size
  have hb1 : Below w1.heap.size w1 (w1.alloc (.cells #[.int .i64 0, .int .i64 y] 33)) := (Below.refl _ _).alloc (Nat.le_refl _) _
  have h1b := h1.later hb1
  have g1b : w.grownBy (w1.alloc (.cells #[.int .i64 0, .int .i64 y] 33)) (some R) := g1.trans (World.grownBy_alloc w1 _ _)
  have hgw : w.heap.size ≤ w1.heap.size := g1.size
  clear h1 g1 hb1
  refine (one_lit [2, 3, 1, 4, 0] _ 5 rfl rfl _ B R a _ _ h1b (by omega) (by simp) (by simp) (by simp)).mono ?_
  rintro e w2 ⟨n, rfl, hn, h2, g2⟩
  have hnb : 0 ≤ n ∧ n ≤ 4 := by
    simp only [List.mem_cons, List.not_mem_nil, or_false] at hn
    omega
  have o2 := o1.kept g2 (.inr (o1.neBlock hRl.2))
  have t2 := g1b.trans g2
  clear hn o1 g1b h1b g2
  go_wp2
  go_loopw [3, 4, 5] (fun v at' n' wr => ∃ (st : List (Int × Int)) (at0 n0 : Int), at' = .int .i64 at0 ∧ n' = .int .i64 n0 ∧ 0 ≤ n0 ∧ (st.length : Int) + n0 ≤ 5 ∧ 1 ≤ st.length ∧ (0 ≤ at0 ∧ at0 ≤ 251 * st.length) ∧ OwnS wr w.heap.size v st ∧ (∀ j, j < st.length → 0 ≤ rat st j ∧ rat st j ≤ 100) ∧ HasReader wr B R a (q + 2 + 4 * st.length) ∧ w.grownBy wr (some R)) (fun _ _ n' _ => (intOf n').toNat)
  case atStart => exact ⟨[(0, y)], 0, n, rfl, rfl, hnb.1, by simp; omega, by simp, by simp, o2, fun j hj => by simp at hj; subst hj; exact hyb, h2.more (by simp), t2⟩
  case round =>
    clear o2 h2 t2
    obtain ⟨st, at0, n0, rfl, rfl, hn0, hln, hl1, hat, hown, hrt, hrd, hgr⟩ := hrel
    have HRT := Lib.hid hrt
    obtain ⟨g, cap, rfl, hgB, hgs⟩ := hown.form hl1
    have hRs : w.heap.size ≤ wr.heap.size := hgr.size
    have hne := hown.neBlock hRl.2
    clear hrt
    by_cases hlt : 0 < n0
    · go_wp2_with fail
      refine (pick_has 250 B R a _ _ hrd (by omega) (by omega)).mono ?_
      rintro e w3 ⟨y1, rfl, ⟨p0, p1, _⟩, h3, g3⟩
      have p2 := p1 (by omega)
      have o3 := hown.kept g3 (.inr hne)
      have t3 := hgr.trans g3
      clear p1 hown hrd hgr g3
      go_wp2_with fail
      refine (pick_has 101 B R a _ _ h3 (by omega) (by omega)).mono ?_
      rintro e w4 ⟨y2, rfl, ⟨r0, r1, _⟩, h4, g4⟩
      have r2 := r1 (by omega)
      have o4 := o3.kept g4 (.inr hne)
      have t4 := t3.trans g4
      clear r1 o3 h3 t3 g4
      go_wp2_with fail
      refine (pick_has 3 B R a _ _ h4 (by omega) (by omega)).mono ?_
      rintro e w5 ⟨y3, rfl, ⟨s0, s1, _⟩, h5, g5⟩
      have s2 := s1 (by omega)
      have o5 := o4.kept g5 (.inr hne)
      have t5 := t4.trans g5
      clear s1 o4 h4 t4 g5
      have hs5 : w.heap.size ≤ w5.heap.size := t5.size
      by_cases hy3 : 0 < y3
      · have m1 : 1 ≤ (st.length : Int) := by omega
        have m2 : (st.length : Int) - 1 < (st.length : Int) := by omega
        have m3 : ((st.length : Int) - 1).toNat = st.length - 1 := by omega
        have hrl := HRT.out (st.length - 1) (by omega)
        have cl : w5.cell? ⟨g, (st.length - 1) * 2 + 1, none⟩ = some (.int .i64 (rat st (st.length - 1))) := (World.ownsRow.cellAt o5 ((st.length - 1) * 2 + 1) (by omega)).trans (cellsS_at st (st.length - 1) (by omega)).2
        have hgR : some g ≠ some R := by simp; omega
        have P6 := pick_has 30 B R a _ w5.drew h5.drew (by omega) (by omega)
        have HP6 := Lib.hid P6
        clear P6
        generalize rat st (st.length - 1) = rl at cl hrl
        have wl : IntKind.i64.wrap ((st.length : Int) - 1) = (st.length : Int) - 1 := IntWalk.i64_in _ (by omega)
        have wl0 : 0 ≤ (st.length : Int) - 1 := by omega
        go_wp2
        go_region_held3 (fun w' => w'.cell? ⟨g, (st.length - 1) * 2 + 1, none⟩ = some (.int .i64 rl))
          (first | go_keep | exact cl | exact g6.cell cl hgR)
          (first | ((with_reducible refine HP6.out.mono ?_); rintro e w6 ⟨y4, rfl, ⟨q0, q1, _⟩, h6, g6⟩))
        have q2 := q1 (by omega)
        have t6 : w.grownBy w6 (some R) := t5.trans (grown_from_drew g6)
        have o6 := o5.kept (grown_from_drew g6) (.inr hne)
        have hs6 : w.heap.size ≤ w6.heap.size := t6.size
        rw [IntWalk.i64_in (rl + y4) (by omega)]
        obtain ⟨r6, hr6, hb6⟩ : ∃ r, (if 100 < rl + y4 then 100 else rl + y4) = r ∧ 0 ≤ r ∧ r ≤ 100 := ⟨_, rfl, by split <;> omega⟩
        rw [hr6]
        clear hr6 q1 g6 o5 t5 h5 wl wl0 HP6 cl hrl
        go_wp2_with (at_builtin; refine wpList_pushS (f := at0 + 1 + y1) (r := r6) o6 (by omega) hs6 (h := ?_))
        intro v7 w7 o7 g7 m7
        have t7 : w.grownBy w7 (some R) := grown_fresh t6 g7 (fun k hk => (o6.lt k hk).1)
        have h7 := h6.kept g7 (fun k hk => by have := (o6.lt k hk).1; omega)
        clear o6 t6 h6 g7 m7
        go_wp2
        go_roundw
        case rel => exact ⟨_, _, _, by go_num, by go_num, by omega, by simp; omega, by simp, by simp; omega, o7, rates_push HRT.out (by omega), h7.more (by simp; omega), t7⟩
        case measure => simp [intOf]; omega
      · go_wp2_with (at_builtin; refine wpList_pushS (f := at0 + 1 + y1) (r := y2) o5 (by omega) hs5 (h := ?_))
        intro v6 w6 o6 g6 m6
        have t6 : w.grownBy w6 (some R) := grown_fresh t5 g6 (fun k hk => (o5.lt k hk).1)
        have h6 := h5.kept g6 (fun k hk => by have := (o5.lt k hk).1; omega)
        clear o5 t5 h5 g6 m6
        go_wp2
        go_roundw
        case rel => exact ⟨_, _, _, by go_num, by go_num, by omega, by simp; omega, by simp, by simp; omega, o6, rates_push HRT.out (by omega), h6.more (by simp; omega), t6⟩
        case measure => simp [intOf]; omega
    · go_wp2_with fail
      refine (pick_has 30 B R a _ _ hrd (by omega) (by omega)).mono ?_
      rintro e w3 ⟨y1, rfl, ⟨p0, p1, _⟩, h3, g3⟩
      have p2 := p1 (by omega)
      have o3 := hown.kept g3 (.inr hne)
      have t3 := hgr.trans g3
      have hs3 : w.heap.size ≤ w3.heap.size := t3.size
      have h3m := h3.more (show q + 2 + 4 * st.length + 1 ≤ q + 99 by omega)
      have i1 : 0 < (st.length : Int) := by omega
      clear p1 hown hrd hgr g3 h3
      by_cases e0 : y1 = 0
      · subst e0
        obtain ⟨⟨c0, _⟩, f0, _⟩ := o3.at rfl 0 hl1
        simp only [Nat.zero_mul] at c0 f0
        obtain ⟨o4, g4⟩ := o3.setFrom rfl 0 hl1 1
        simp only [Nat.zero_mul] at o4 g4
        have O4 := Lib.hid o4
        have T4 := Lib.hid (grown_fresh t3 g4 (fun k hk => by cases hk; exact hgB))
        have H4 := Lib.hid (h3m.kept g4 (fun k hk => by cases hk; exact ⟨by omega, by omega⟩))
        clear o4 g4 o3 h3m
        go_wp2
        go_ret
        exact ⟨_, _, rfl, O4.out, by simp; omega, H4.out.more (by omega), T4.out⟩
      · by_cases e1 : y1 = 1
        · subst e1
          go_wp2_with fail
          refine (one_lit [101, -1] _ 2 rfl rfl _ B R a _ _ h3m (by omega) (by simp) (by simp) rfl).mono ?_
          rintro e w4 ⟨y2, rfl, _, h4, g4⟩
          have o4 := o3.kept g4 (.inr hne)
          have t4 := t3.trans g4
          have m2 : (st.length : Int) - 1 < (st.length : Int) := by omega
          have m3 : ((st.length : Int) - 1).toNat = st.length - 1 := by omega
          have m4 : 1 ≤ (st.length : Int) := by omega
          obtain ⟨⟨_, c1⟩, _, f1⟩ := o4.at rfl (st.length - 1) (by omega)
          obtain ⟨o5, g5⟩ := o4.setRate rfl (st.length - 1) (by omega) y2
          have O5 := Lib.hid o5
          have T5 := Lib.hid (grown_fresh t4 g5 (fun k hk => by cases hk; exact hgB))
          have H5 := Lib.hid (h4.kept g5 (fun k hk => by cases hk; exact ⟨by omega, by omega⟩))
          clear o5 g5 o4 o3 h3m h4 g4 t4
          go_wp2
          go_ret
          exact ⟨_, _, rfl, O5.out, by simp; omega, H5.out.more (by omega), T5.out⟩
        · by_cases e2 : y1 = 2
          · subst e2
            have m2 : (st.length : Int) - 1 < (st.length : Int) := by omega
            have m3 : ((st.length : Int) - 1).toNat = st.length - 1 := by omega
            have m4 : 1 ≤ (st.length : Int) := by omega
            obtain ⟨⟨c0, c1⟩, _, _⟩ := o3.at rfl (st.length - 1) (by omega)
            generalize frm st (st.length - 1) = fl at c0
            generalize rat st (st.length - 1) = rl at c1
            go_wp2_with (at_builtin; refine wpList_pushS (f := fl) (r := rl) o3 (by omega) hs3 (h := ?_))
            intro v6 w6 o6 g6 m6
            have t6 : w.grownBy w6 (some R) := grown_fresh t3 g6 (fun k hk => (o3.lt k hk).1)
            have h6 := h3m.kept g6 (fun k hk => by have := (o3.lt k hk).1; omega)
            clear o3 t3 h3m g6 m6 c0 c1
            go_wp2
            go_ret
            exact ⟨_, _, rfl, o6, by simp; omega, h6.more (by omega), t6⟩
          · by_cases e3 : y1 = 3
            · subst e3
              have hbe : Below w3.heap.size w3 (w3.alloc (.cells #[] 33)) := (Below.refl _ _).alloc (Nat.le_refl _) _
              have oe := own_emptyS w3 w.heap.size hs3
              go_wp2
              go_ret
              exact ⟨_, _, rfl, oe, by simp, (h3m.later hbe).more (by omega), t3.trans (World.grownBy_alloc w3 _ _)⟩
            · have f0 : (y1 == 0) = false := by simpa using e0
              have f1 : (y1 == 1) = false := by simpa using e1
              have f2 : (y1 == 2) = false := by simpa using e2
              have f3 : (y1 == 3) = false := by simpa using e3
              clear e0 e1 e2 e3
              go_wp2
              go_ret
              exact ⟨_, _, rfl, o3, by omega, h3m.more (by omega), t3⟩

end Go.Proofs.Ytmeejaafbbabaaa
