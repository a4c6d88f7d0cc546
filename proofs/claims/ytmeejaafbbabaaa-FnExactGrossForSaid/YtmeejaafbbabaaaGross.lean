/- The least income of which so much is left, in the program. -/
import Derived.Test.YtmeejaafbbabaaaBx
import Derived.RegionIn
import Derived.Laws.EntriesVeiled
namespace Go.Proofs.Ytmeejaafbbabaaa
open Go.RowKit Go.Shelf
attribute [local go_sem] Oper.semAt_some

/-- The least income of which at least so much is left, if there is one. -/
def leastI (st : List (Int × Int)) (amt : Int) : Option Int := (incs 2001).find? fun x => decide (amt ≤ netT st x)
def grossA (st : List (Int × Int)) (amt : Int) : Int × Bool := if canT st amt then (match leastI st amt with | some x => (x, true) | none => (0, false)) else (0, false)

theorem incs_mem {k : Nat} {x : Int} : x ∈ incs k ↔ 0 ≤ x ∧ x < k := by
  unfold incs
  rw [List.mem_map]
  constructor
  · rintro ⟨i, hi, rfl⟩
    have := List.mem_range.1 hi
    omega
  · rintro ⟨h0, h1⟩
    exact ⟨x.toNat, List.mem_range.2 (by omega), by omega⟩

theorem leastI_none {st : List (Int × Int)} {amt : Int} (h : ∀ x, 0 ≤ x → x < 2001 → netT st x < amt) : leastI st amt = none := by
  unfold leastI
  rw [List.find?_eq_none]
  intro x hx
  have := incs_mem.1 hx
  have := h x this.1 (by omega)
  simp; omega

theorem find_incs {p : Int → Bool} {k n : Nat} (hk : k < n) (h : ∀ x : Int, 0 ≤ x → x < k → p x = false) (hp : p k = true) : (incs n).find? p = some (k : Int) := by
  induction n with
  | zero => omega
  | succ n ih =>
    rw [← incs_succ, List.find?_append]
    by_cases e : k = n
    · subst e
      have : (incs k).find? p = none := by
        rw [List.find?_eq_none]
        intro x hx
        have := incs_mem.1 hx
        simp [h x this.1 this.2]
      rw [this]
      simp [hp]
    · rw [ih (by omega)]; rfl

theorem leastI_some {st : List (Int × Int)} {amt : Int} {k : Nat} (hk : k < 2001) (h : ∀ x : Int, 0 ≤ x → x < k → netT st x < amt) (hp : amt ≤ netT st k) : leastI st amt = some (k : Int) :=
  find_incs hk (fun x h0 h1 => by have := h x h0 h1; simp; omega) (by simpa using hp)

set_option maxRecDepth 100000 in
set_option maxHeartbeats 2000000 in
theorem GrossFor_impl (v : Value) (st : List (Int × Int)) (amt : Int) (w : World) (hv : IsSteps w v st) (hl : st.length ≤ 9223372036854775807) :
    Calls Try.prog 30 #[v, .int .i64 amt] w fun e w' => e = .returned (.tuple #[.int .i64 (grossA st amt).1, .bool (grossA st amt).2]) ∧ Below w.heap.size w w' := by
  have hB3 : Below w.heap.size w (((w.alloc (.cells #[.int .i64 amt] 3)).alloc (.cells #[.int .i64 0] 3)).alloc (.cells #[.bool false] 4)) := (((Below.refl _ w).alloc (Nat.le_refl _) _).alloc (by simp) _).alloc (by simp; omega) _
  have c0 := ((Bx.new w (.int .i64 amt) 3).alloc (.cells #[.int .i64 0] 3)).alloc (.cells #[.bool false] 4)
  have c1 := (Bx.new (w.alloc (.cells #[.int .i64 amt] 3)) (.int .i64 0) 3).alloc (.cells #[.bool false] 4)
  have c2 := Bx.new ((w.alloc (.cells #[.int .i64 amt] 3)).alloc (.cells #[.int .i64 0] 3)) (.bool false) 4
  simp only [World.size_alloc] at c1 c2
  obtain ⟨av, cv, rfl, _⟩ := id hv
  have vB3 := hv.below hB3
  have hsz3 : (((w.alloc (.cells #[.int .i64 amt] 3)).alloc (.cells #[.int .i64 0] 3)).alloc (.cells #[.bool false] 4)).heap.size = w.heap.size + 1 + 1 + 1 := by simp
  refine (callsIn_wide (n := 3)).1 ?_
  refine callsIn_of_wp_marks Try.func30 rfl trivial ?_ rfl
  simp only [Try.ntmps30, List.size_toArray, List.length_cons, List.length_nil, Nat.reduceAdd, Nat.reduceSub, Array.replicate_succ, Array.replicate_zero, List.push_toArray, List.append_toArray, List.nil_append, List.cons_append]
  have C1 : Hid (Calls Try.prog 55 #[.slice av st.length cv, .int .i64 amt] (((w.alloc (.cells #[.int .i64 amt] 3)).alloc (.cells #[.int .i64 0] 3)).alloc (.cells #[.bool false] 4)) fun e w' => e = .returned (.bool (canT st amt)) ∧ Below (w.heap.size + 1 + 1 + 1) (((w.alloc (.cells #[.int .i64 amt] 3)).alloc (.cells #[.int .i64 0] 3)).alloc (.cells #[.bool false] 4)) w') := by
    rw [← hsz3]; exact canTax_impl _ st amt _ vB3 hl
  have HZ := Lib.hid hsz3
  have C0 := Lib.hid c0
  have CA := Lib.hid c1
  have CB := Lib.hid c2
  have HB := Lib.hid hB3
  have HV := Lib.hid vB3
  have HVV := Lib.hid hv
  clear hsz3 hB3 hv vB3 c0 c1 c2
  gi_wp2_with fail
  refine ⟨trivial, (callsIn_wide.2 C1.out).mono ?_⟩
  rintro e w1 ⟨rfl, hb1⟩
  generalize ((w.alloc (.cells #[.int .i64 amt] 3)).alloc (.cells #[.int .i64 0] 3)).alloc (.cells #[.bool false] 4) = W3 at *
  have hb1' : Below W3.heap.size W3 w1 := by rw [HZ.out]; exact hb1
  have c0 := C0.out.below hb1'
  have c1 := CA.out.below hb1'
  have c2 := CB.out.below hb1'
  have hB1 : Below w.heap.size w w1 := HB.out.trans (hb1'.mono HB.out.size)
  have v1 := HV.out.below hb1'
  have z1 : w.heap.size + 1 + 1 + 1 ≤ w1.heap.size := by have := hb1'.size; rw [HZ.out] at this; exact this
  clear hb1 hb1' C0 CA CB HB HV C1 HZ
  cases hcan : canT st amt
  · have E : Hid (grossA st amt = (0, false)) := by show grossA st amt = _; unfold grossA; rw [hcan]; rfl
    have d1 := c1.1
    have d2 := c2.1
    have e1 := c1.2
    have e2 := c2.2
    clear hcan
    gi_wp2
    have f2 := (c2.other (c := w.heap.size + 1) (by omega) (.int .i64 0)).set (.bool false)
    have f1 := (c1.set (.int .i64 0)).other (c := w.heap.size + 1 + 1) (by omega) (.bool false)
    refine ⟨.tuple #[.int .i64 0, .bool false], by simp [results, Try.f30, go_sem, f1.1, f2.1], by rw [E.out], (hB1.setCell (p := ⟨w.heap.size + 1, 0, none⟩) (by simp) _).setCell (p := ⟨w.heap.size + 1 + 1, 0, none⟩) (by simp; omega) _⟩
  · have cn := Bx.new w1 .nilFunc 57
    have cn1 := cn.1
    have cn2 := cn.2
    gi_wp2
    obtain ⟨hs, hamt⟩ := canT_true hcan
    have F0 := Lib.hid (c0.alloc (.cells #[.func (.func 60) #[.slice av st.length cv] #[]] 57))
    have F1 := Lib.hid (c1.alloc (.cells #[.func (.func 60) #[.slice av st.length cv] #[]] 57))
    have F2 := Lib.hid (c2.alloc (.cells #[.func (.func 60) #[.slice av st.length cv] #[]] 57))
    have F3 := Lib.hid (Bx.new w1 (.func (.func 60) #[.slice av st.length cv] #[]) 57)
    have F4 := Lib.hid (hB1.alloc hB1.size (.cells #[.func (.func 60) #[.slice av st.length cv] #[]] 57))
    have F5 : Hid ((w1.alloc (.cells #[.func (.func 60) #[.slice av st.length cv] #[]] 57)).heap.size = w1.heap.size + 1) := by show (w1.alloc _).heap.size = _; simp
    generalize w1.alloc (.cells #[.func (.func 60) #[.slice av st.length cv] #[]] 57) = W2 at *
    clear c0 c1 c2 cn cn1 cn2 hB1 v1
    refine wpIn_rangeFunc_ownF rfl (by omega) (gf := 62) (lb := #[]) rfl trivial (enters_of Try.func62 (by kernel_rfl) rfl)
      (incomes_stops Fence.wide _ trivial rfl (by omega) w.heap.size W2) belowK_t (belowK_b F4.out.size) (Below.refl _ _) (fun _ => rfl)
      (fun (pre : List (Fin 2001)) W => ((∀ y ∈ pre, netT st (fv y) < amt) ∧ Bx W w.heap.size (.int .i64 amt) ∧ Bx W (w.heap.size + 1) (.int .i64 0) ∧ Bx W (w.heap.size + 1 + 1) (.bool false) ∧ Bx W w1.heap.size (.func (.func 60) #[.slice av st.length cv] #[])) ∧ Below w.heap.size w W)
      (fun c (pre : List (Fin 2001)) W => (c = .ret ∧ ∃ (p0 : List (Fin 2001)) (x : Fin 2001), pre = p0 ++ [x] ∧ (∀ y ∈ p0, netT st (fv y) < amt) ∧ amt ≤ netT st (fv x) ∧ Bx W (w.heap.size + 1) (.int .i64 (fv x)) ∧ Bx W (w.heap.size + 1 + 1) (.bool true)) ∧ Below w.heap.size w W)
      (OwnFrom.and (Go.Own.from (fun s A B row hs hg hr => ⟨hs.1, hs.2.1.own hg hr, hs.2.2.1.own hg hr, hs.2.2.2.1.own hg hr, hs.2.2.2.2.own hg hr⟩) _) (ownFrom_below (Nat.le_refl _) F4.out.size))
      (fun c => OwnFrom.and (Go.Own.from (fun s A B row hs hg hr => ⟨hs.1, hs.2.imp fun _ hk => hk.imp fun _ hk => ⟨hk.1, hk.2.1, hk.2.2.1, hk.2.2.2.1.own hg hr, hk.2.2.2.2.own hg hr⟩⟩) _) (ownFrom_below (Nat.le_refl _) F4.out.size))
      ⟨⟨by simp, F0.out, F1.out, F2.out, F3.out⟩, F4.out⟩
      (fun x => { tmps := #[.slice av st.length cv, .int .i64 amt, undef, .pointer (some ⟨w.heap.size, 0, none⟩), .pointer (some ⟨w.heap.size + 1, 0, none⟩), .pointer (some ⟨w.heap.size + 1 + 1, 0, none⟩), .pointer (some ⟨w1.heap.size, 0, none⟩), .int .i64 (fv x), .slice av st.length cv, .int .i64 amt, .bool true, .bool false, .slice av st.length cv, .func (.func 60) #[.slice av st.length cv] #[], .int .i64 (fv x), undef, undef, undef, undef, undef, undef], defers := [] }) ?assign ?body ?done ?stop
    case assign =>
      intro l x W K hK
      gi_wp2
      exact hK
    case body =>
      rintro l pre x W ⟨⟨hpre, b0, b1, b2, b3⟩, hB⟩ hlen
      have hx : 0 ≤ fv x ∧ fv x ≤ 2000 := by unfold fv; have := x.isLt; omega
      have hBw : Below w.heap.size w W := hB
      have hvW := IsSteps.below HVV.out hBw
      have hmx : Try.prog.follows .mixedOrders = true := by kernel_rfl
      have q0 := b0.1
      have q3 := b3.1
      have b0d : Bx W.drew w.heap.size (.int .i64 amt) := b0
      have NC : Hid (Calls Try.prog 60 #[.slice av st.length cv, .int .i64 (fv x)] W.drew fun e w' => e = .returned (.int .i64 (netT st (fv x))) ∧ (Below W.drew.heap.size W.drew w' ∧ w'.cell? ⟨w.heap.size, 0, none⟩ = some (.int .i64 amt))) :=
        (netOf_impl _ st (fv x) W.drew (hvW.below (Below.refl _ W).drew) hs hx).mono fun e w' h => ⟨h.1, h.2, (b0d.below h.2).1⟩
      have B0 := Lib.hid b0
      have B1 := Lib.hid b1
      have B2 := Lib.hid b2
      have B3 := Lib.hid b3
      clear b0 b1 b2 b3 b0d hvW
      gi_wp2
      gi_region_with_o (refine ⟨trivial, (CallsIn.inRound l (callsIn_wide.2 NC.out)).mono ?_⟩; rintro e W4 ⟨rfl, hb4, r0⟩)
      all_goals
        have hbW : Below W.heap.size W W4 := Below.trans (b := W.drew) (Below.refl _ W).drew hb4
        have hKO : KeepsOthers W W4 := KeepsOthers.of_grownBy (row := none) ⟨hbW.os, hbW.tape, hbW.output, hbW.size, fun k hk _ => hbW.block k hk⟩ (fun j o e => by cases e)
        have n0 := B0.out.below hbW
        have n1 := B1.out.below hbW
        have n2 := B2.out.below hbW
        have n3 := B3.out.below hbW
        have hB4 : Below w.heap.size w W4 := hBw.trans (hbW.mono hBw.size)
        have hK4 : Below w.heap.size W W4 := hbW.mono hBw.size
        clear hb4
        by_cases hle : amt ≤ netT st (fv x)
        · have e1 := n1.1
          have e2 := n2.1
          have e3 := n1.2
          have e4 := n2.2
          gi_wp2
          exact ⟨(hKO.trans (KeepsOthers.setCell _ _ _)).trans (KeepsOthers.setCell _ _ _), ⟨rfl, pre, x, rfl, hpre, hle, (n1.set _).other (c := w.heap.size + 1 + 1) (by omega) _, (n2.other (c := w.heap.size + 1) (by omega) _).set _⟩, (hB4.setCell (p := ⟨w.heap.size + 1, 0, none⟩) (by simp) _).setCell (p := ⟨w.heap.size + 1 + 1, 0, none⟩) (by simp; omega) _⟩
        · gi_wp2
          exact ⟨hKO, hK4, ⟨fun y hy => (List.mem_append.1 hy).elim (hpre y) (fun e => by rw [List.mem_singleton.1 e]; omega), n0, n1, n2, n3⟩, hB4⟩
    case done =>
      rintro D ys W hD hys ⟨⟨hne, b0, b1, b2, _⟩, hB⟩ hK
      have E : Hid (grossA st amt = (0, false)) := by
        show grossA st amt = _
        unfold grossA
        rw [hcan, leastI_none (fun x h0 h1 => by
          have hx : x ∈ ys.map fv := by rw [hys]; exact incs_mem.2 ⟨h0, by omega⟩
          obtain ⟨y, hy, rfl⟩ := List.mem_map.1 hx
          exact hne y hy)]
        rfl
      have HK := Lib.hid hK
      have HD := Lib.hid hD
      have d1 := b1.1
      have d2 := b2.1
      have e1 := b1.2
      have e2 := b2.2
      clear hK hys hne
      gi_wp2
      have hK' := ((KeepsOthers.setCell W ⟨w.heap.size + 1, 0, none⟩ (.int .i64 0)).trans (KeepsOthers.setCell _ ⟨w.heap.size + 1 + 1, 0, none⟩ (.bool false))).same D _ HK.out rfl
      refine ⟨by simp, .inl ⟨_, _, rfl, run_takeDeferred hK', ?_⟩⟩
      have g2 := ((b2.other (c := w.heap.size + 1) (by omega) (.int .i64 0)).set (.bool false)).own (grownBy_putObj' _ D (.deferred none)) (fun r e => by cases e; exact ⟨_, hK', rfl⟩)
      have g1 := ((b1.set (.int .i64 0)).other (c := w.heap.size + 1 + 1) (by omega) (.bool false)).own (grownBy_putObj' _ D (.deferred none)) (fun r e => by cases e; exact ⟨_, hK', rfl⟩)
      refine ⟨.tuple #[.int .i64 0, .bool false], by simp [results, Try.f30, go_sem, g1.1, g2.1], by rw [E.out], ?_⟩
      exact ((hB.setCell (p := ⟨w.heap.size + 1, 0, none⟩) (by simp) _).setCell (p := ⟨w.heap.size + 1 + 1, 0, none⟩) (by simp; omega) _).trans (belowK_b (w := w) (Nat.le_refl _) _ D _ _ (Nat.le_trans F4.out.size HD.out) hK' rfl rfl)
    case stop =>
      rintro D c pre W hD ⟨k, hk, hpk⟩ ⟨⟨rfl, p0, x, rfl, hp0, hle, b1, b2⟩, hB⟩ hK
      have hpk' : p0.map fv = incs k ∧ fv x = (k : Int) := by
        rw [List.map_append, ← incs_succ] at hpk
        have := List.append_inj' hpk rfl
        exact ⟨this.1, by simpa using this.2⟩
      have E : Hid (grossA st amt = (fv x, true)) := by
        show grossA st amt = _
        unfold grossA
        rw [hcan, leastI_some (k := k) hk (fun z h0 h1 => by
          have hz : z ∈ p0.map fv := by rw [hpk'.1]; exact incs_mem.2 ⟨h0, h1⟩
          obtain ⟨y, hy, rfl⟩ := List.mem_map.1 hz
          exact hp0 y hy) (by rw [← hpk'.2]; exact hle), hpk'.2]
        rfl
      have HK := Lib.hid hK
      have HD := Lib.hid hD
      clear hK hpk hpk' hp0
      gi_wp2
      have hK' := HK.out
      refine ⟨by simp, .inl ⟨_, _, rfl, run_takeDeferred hK', ?_⟩⟩
      have g2 := b2.own (grownBy_putObj' _ D (.deferred none)) (fun r e => by cases e; exact ⟨_, hK', rfl⟩)
      have g1 := b1.own (grownBy_putObj' _ D (.deferred none)) (fun r e => by cases e; exact ⟨_, hK', rfl⟩)
      refine ⟨.tuple #[.int .i64 (fv x), .bool true], by simp [results, Try.f30, go_sem, g1.1, g2.1], by rw [E.out], ?_⟩
      exact hB.trans (belowK_b (w := w) (Nat.le_refl _) _ D _ _ (Nat.le_trans F4.out.size HD.out) hK' rfl rfl)

end Go.Proofs.Ytmeejaafbbabaaa
