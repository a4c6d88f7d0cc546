/- A circle of debts taken down, in the program. -/
import Derived.Test.YtbedjebnllimpaaFirstI
namespace Go.Proofs.Ytbedjebnllimpaa
open Go.RowKit

theorem infoPtr : (Try.prog.info? 58).map (fun i => (i.zero, i.size, i.bytes)) = some (some (.pointer none), 1, 8) := by kernel_rfl

/-- A slice of pointers of the call's own. -/
def OwnQ (w : World) (B : Nat) (v : Value) (us : List Value) : Prop := w.ownsRow B 58 1 v us.length us

theorem OwnQ.below {w w' : World} {B : Nat} {v : Value} {us : List Value} (h : OwnQ w B v us) (hb : Below w.heap.size w w') : OwnQ w' B v us :=
  World.ownsRow.kept h (grown_below hb none) (by cases hv : v.ownBlock <;> simp)
theorem OwnQ.kept {w w' : World} {B : Nat} {v : Value} {us : List Value} {row : Option Nat} (h : OwnQ w B v us) (hg : w.grownBy w' row) (hne : v.ownBlock = none ∨ v.ownBlock ≠ row) : OwnQ w' B v us := World.ownsRow.kept h hg hne
theorem OwnQ.lt {w : World} {B : Nat} {v : Value} {us : List Value} (h : OwnQ w B v us) : ∀ k, v.ownBlock = some k → B ≤ k ∧ k < w.heap.size := World.ownsRow.lt h

theorem OwnQ.cell {w : World} {B : Nat} {g cap : Nat} {us : List Value} (h : OwnQ w B (.slice (some ⟨g, 0, none⟩) us.length cap) us) (j : Nat) (hj : j < us.length) : w.cell? ⟨g, j, none⟩ = some (us.getD j undef) := by
  have h' : w.ownsRow B 58 1 (.slice (some ⟨g, 0, none⟩) us.length cap) us.length us := h
  rw [World.ownsRow.cellAt h' j (by omega)]
  simp [List.getD, hj]

theorem OwnQ.form {w : World} {B : Nat} {v : Value} {us : List Value} (h : OwnQ w B v us) (h0 : 0 < us.length) : ∃ g cap, v = .slice (some ⟨g, 0, none⟩) us.length cap := by
  rcases h.2 with ⟨_, hn⟩ | ⟨g, cap, cur, he, _⟩
  · omega
  · exact ⟨g, cap, he⟩

theorem wpList_pushQ {ops : Array Oper} {rest : List Oper} {o : Oper} {a : Act} {Q : Exit → Act → World → Prop} {wr : World} {s x : Operand} {B : Nat} {v : Value} {us : List Value} {ad : Option Addr}
    (hown : OwnQ wr B v us) (hlen : us.length ≤ 1048576) (hB : B ≤ wr.heap.size) (hgd : o.guard = none := by rfl)
    (ho : o.op = .call { callee := .builtin .append, args := #[s, x], argTypes := #[74, 74] } := by rfl)
    (hs : a.eval s = v := by rfl) (hx : a.eval x = .slice (some ⟨wr.heap.size, 0, none⟩) 1 1 := by rfl)
    (h : ∀ v' w', OwnQ w' B v' (us ++ [.pointer ad]) → wr.grownBy w' v.ownBlock → wpList Try.prog ops Q rest (a.put o.dst v') w') :
    wpList Try.prog ops Q (o :: rest) a (wr.alloc (.cells #[.pointer ad] 58)) := by
  obtain ⟨i0, hi, hz0, hz1, hz2⟩ := info_parts infoPtr
  refine wpList_append_own_at _ hgd s x 74 ho B 58 i0 (.pointer none) 1 8 Try.underlying74 hi hz0 hz1 hz2 rfl (by decide) v us.length us hs (World.ownsRow.alloc hown _) ⟨wr.heap.size, 0, none⟩ 1 1 [.pointer ad] hx rfl (cell_one_new _ _ _) (by intro u hu; simp at hu; subst hu; rfl) (by unfold maxLen; omega) (by omega) (by simp; omega) ?_
  intro v' w' h1 h2 _ _
  refine h v' w' ?_ ((World.grownBy_alloc wr _ _).trans h2)
  unfold OwnQ
  rw [List.length_append]
  exact h1

/-- The block of a row. -/
def blkOf (v : Value) : Nat := (v.ownBlock).getD 0
def capOf : Value → Nat
  | .slice _ _ c => c
  | _ => 0

theorem row_form {w : World} {B : Nat} {v : Value} {vs : List Value} {o : List (List Int)} (h : OwnTV w B v vs o) {i : Nat} (hi : i < o.length) (hp : 0 < (rowOf o i).length) : vs.getD i undef = sl (blkOf (vs.getD i undef)) (rowOf o i).length (capOf (vs.getD i undef)) := by
  have hr := (h.2.2.1 i hi).1
  rcases id hr.2 with ⟨_, hn⟩ | ⟨g, cap, cur, he, _⟩
  · omega
  · rw [he]; rfl

/-- One number of a table of the call's own set. -/
theorem OwnTV.setCell {w : World} {B : Nat} {v : Value} {vs : List Value} {o : List (List Int)} (h : OwnTV w B v vs o) {i j : Nat} (hi : i < o.length) (hj : j < (rowOf o i).length) (x : Int) :
    OwnTV (w.setCell ⟨blkOf (vs.getD i undef), j, none⟩ (.int .i64 x)) B v vs (setC o i j x) ∧ w.grownBy (w.setCell ⟨blkOf (vs.getD i undef), j, none⟩ (.int .i64 x)) (some (blkOf (vs.getD i undef))) ∧ w.cell? ⟨blkOf (vs.getD i undef), j, none⟩ = some (.int .i64 (cellOf o i j)) ∧ w.frozen? ⟨blkOf (vs.getD i undef), j, none⟩ = false ∧ B ≤ blkOf (vs.getD i undef) ∧ blkOf (vs.getD i undef) < w.heap.size := by
  have hf := row_form h hi (by omega)
  have hr := (h.2.2.1 i hi).1
  rw [hf] at hr
  have s := hr.set rfl j x
  have hb := hr.lt _ rfl
  have e : (vs.getD i undef).ownBlock = some (blkOf (vs.getD i undef)) := by
    have h2 := congrArg Value.ownBlock hf
    exact h2
  refine ⟨h.mark hi (by rw [e]; exact s.2) ?_, s.2, hr.cell rfl j hj, hr.frozen rfl j, hb.1, hb.2⟩
  have h3 := s.1
  rw [hf]
  exact h3

/-- The blocks and the room of a table's rows. -/
def rbOf (vs : List Value) (i : Nat) : Nat := blkOf (vs.getD i undef)
def cpOf (vs : List Value) (i : Nat) : Nat := capOf (vs.getD i undef)

/-- The pointers to the first debts of a circle. -/
def ptrsC (c : List Nat) (RB : Nat → Nat) (k : Nat) : List Value := (List.range k).map fun i => .pointer (some ⟨RB (c.getD i 0), nxC c i, none⟩)
theorem ptrsC_len (c : List Nat) (RB : Nat → Nat) (k : Nat) : (ptrsC c RB k).length = k := by simp [ptrsC]
theorem ptrsC_succ (c : List Nat) (RB : Nat → Nat) (k : Nat) : ptrsC c RB (k + 1) = ptrsC c RB k ++ [.pointer (some ⟨RB (c.getD k 0), nxC c k, none⟩)] := by simp [ptrsC, List.range_succ]
theorem ptrsC_at (c : List Nat) (RB : Nat → Nat) (m k : Nat) (h : k < m) : (ptrsC c RB m).getD k undef = .pointer (some ⟨RB (c.getD k 0), nxC c k, none⟩) := by simp [ptrsC, List.getD, h]

theorem good_short {g : List (List Int)} {c : List Nat} (h : GoodC g c) : c.length ≤ g.length := nodup_shortM g.length c h.nd h.lt

set_option maxRecDepth 100000 in
set_option maxHeartbeats 6400000 in
theorem takeDown_impl (v vc : Value) (vs : List Value) (g : List (List Int)) (c : List Nat) (B : Nat) (w : World) (hd1 : vDebts g = true) (hg : GoodC g c) (hcl : closes g c = true) (hown : OwnTV w B v vs g) (hB : B ≤ w.heap.size) (hc : IsInts w vc (ti c)) :
    Calls Try.prog 73 #[v, vc] w fun e w' => e = .returned (.tuple #[]) ∧ OwnTV w' B v vs (downC g c) ∧ Below B w w' := by
  obtain ⟨hn, hrow⟩ := (vDebts_iff g).1 hd1
  obtain ⟨hm1, _⟩ := closes_iff.1 hcl
  have hsq := vDebts_sq hd1
  have hm6 : c.length ≤ 1048576 := by have h1 := good_short hg; have h2 := hn.2; omega
  have HOWN := Lib.hid hown
  rcases id hown.2.1.2 with ⟨_, hz⟩ | ⟨gt, capt, cur, rfl, hgt, _⟩
  · omega
  have HROWV : Hid (∀ wx, Below w.heap.size w wx → ∀ i, i < g.length → wx.cell? ⟨gt, i, none⟩ = some (.slice (some ⟨rbOf vs i, 0, none⟩) g.length (cpOf vs i))) := fun wx hx i hi => by
    have hrl := hsq i hi
    have hf := row_form hown hi (by omega)
    have hcel : w.cell? ⟨gt, i, none⟩ = some (vs.getD i undef) := by
      have h' : w.ownsRow B 28 1 (.slice (some ⟨gt, 0, none⟩) g.length capt) g.length vs := hown.2.1
      rw [World.ownsRow.cellAt h' i (by omega)]
      simp [List.getD, show i < vs.length by rw [hown.1]; exact hi]
    rw [hrl] at hf
    have hcel2 := (hx.cell (p := ⟨gt, i, none⟩) (World.block_lt_of_cell? w _ hcel)).trans hcel
    rw [hf] at hcel2
    exact hcel2
  have HED : Hid (∀ i, i < c.length → c.getD i 0 < g.length ∧ nxC c i < g.length) := fun i hi => ⟨hg.lt i hi, (hg.edges hcl hi).2.1⟩
  obtain ⟨ac, cc, rfl, hcc⟩ := hc
  rw [ti_length] at hcc ⊢
  have HCC : Hid (∀ wx, Below w.heap.size w wx → ∀ k, k < c.length → ∃ bc fc, ac = some ⟨bc, fc, none⟩ ∧ wx.cell? ⟨bc, fc + k, none⟩ = some (.int .i64 ((c.getD k 0 : Nat) : Int))) := fun wx hx k hk => by
    obtain ⟨bc, fc, e, h⟩ := hcc k hk
    rw [ti_getD] at h
    exact ⟨bc, fc, e, (hx.cell (p := ⟨bc, fc + k, none⟩) (World.block_lt_of_cell? w _ h)).trans h⟩
  have hmne : (c.length : Int) ≠ 0 := by omega
  have hn6 : g.length ≤ 6 := hn.2
  have HD1 := Lib.hid hd1
  have HGD := Lib.hid hg
  have HCL := Lib.hid hcl
  clear hcc hrow hn hg hcl hown hd1 hsq
  go_enter Try.func73, Try.ntmps73
  go_wp2
  go_loopw [4, 15] (fun dv s wr => ∃ k : Nat, k ≤ c.length ∧ s = .int .i64 k ∧ OwnQ wr w.heap.size dv (ptrsC c (rbOf vs) k) ∧ Below w.heap.size w wr) (fun _ s _ => c.length - (intOf s).toNat)
  case atStart => exact ⟨0, Nat.zero_le _, rfl, World.ownsRow_nil _ _ _ _, Below.refl _ _⟩
  case round =>
    obtain ⟨k, hk, rfl, hq, hbl⟩ := hrel
    rename World => wr
    by_cases hlt : k < c.length
    · have i1 : (k : Int) < (c.length : Int) := by omega
      obtain ⟨bc, fc, rfl, ck⟩ := HCC.out wr hbl k hlt
      have hmod : ((k : Int) + 1) % (c.length : Int) = (((k + 1) % c.length : Nat) : Int) := by simp
      have hml := Nat.mod_lt (k + 1) (show 0 < c.length by omega)
      obtain ⟨bc2, fc2, e2, cn⟩ := HCC.out wr hbl ((k + 1) % c.length) hml
      simp only [Option.some.injEq, Addr.mk.injEq, and_true] at e2
      obtain ⟨rfl, rfl⟩ := e2
      have hed := HED.out k hlt
      have cr := HROWV.out wr hbl (c.getD k 0) hed.1
      have hnx : c.getD ((k + 1) % c.length) 0 = nxC c k := rfl
      rw [hnx] at cn
      have HPS : Hid (ptrsC c (rbOf vs) (k + 1) = ptrsC c (rbOf vs) k ++ [.pointer (some ⟨rbOf vs (c.getD k 0), nxC c k, none⟩)]) := ptrsC_succ _ _ _
      have hpl := ptrsC_len c (rbOf vs) k
      have hsz := hbl.size
      have j1 : ((c.getD k 0 : Nat) : Int) < (g.length : Int) := by have := hed.1; omega
      have j2 : ((nxC c k : Nat) : Int) < (g.length : Int) := by have := hed.2; omega
      have hq6 : (ptrsC c (rbOf vs) k).length ≤ 1048576 := by omega
      have HQ := Lib.hid hq
      clear hnx hed hpl hq
      generalize (k + 1) % c.length = r at *
      generalize c.getD k 0 = fk at *
      generalize nxC c k = nk at *
      generalize rbOf vs fk = rb at *
      generalize cpOf vs fk = cp at *
      go_wp2_with (at_builtin; refine wpList_pushQ HQ.out hq6 hsz (h := ?_))
      intro v4 w4 q4 gr4
      rw [← HPS.out] at q4
      have hb4 : Below w.heap.size w w4 := hbl.trans (below_grown gr4 hsz (fun j hj => (HQ.out.lt j hj).1))
      have Q4 := Lib.hid q4
      clear q4 gr4 HQ
      go_wp2
      go_roundw
      case rel => exact ⟨k + 1, by omega, by go_num, Q4.out, hb4⟩
      case measure => simp [intOf]; omega
    · have hke : k = c.length := by omega
      subst hke
      have hpl := ptrsC_len c (rbOf vs) c.length
      obtain ⟨gq, cq, rfl⟩ := hq.form (by rw [hpl]; omega)
      have hql := hq.lt gq rfl
      obtain ⟨l1, l2, _, _⟩ := least_facts HD1.out HGD.out HCL.out
      have HCQ : Hid (∀ wx, OwnQ wx w.heap.size (.slice (some ⟨gq, 0, none⟩) (ptrsC c (rbOf vs) c.length).length cq) (ptrsC c (rbOf vs) c.length) → ∀ k, k < c.length → wx.cell? ⟨gq, k, none⟩ = some (.pointer (some ⟨rbOf vs (c.getD k 0), nxC c k, none⟩))) := fun wx hx k hk => by
        rw [hx.cell k (by rw [hpl]; exact hk), ptrsC_at c _ _ k hk]
      have HTK : Hid (∀ wx k, k < c.length → OwnTV wx B (.slice (some ⟨gt, 0, none⟩) g.length capt) vs (takeK g c (minE g c c.length) k) → OwnTV (wx.setCell ⟨rbOf vs (c.getD k 0), nxC c k, none⟩ (.int .i64 (cellOf (takeK g c (minE g c c.length) k) (c.getD k 0) (nxC c k) - minE g c c.length))) B (.slice (some ⟨gt, 0, none⟩) g.length capt) vs (takeK g c (minE g c c.length) (k + 1)) ∧ wx.grownBy (wx.setCell ⟨rbOf vs (c.getD k 0), nxC c k, none⟩ (.int .i64 (cellOf (takeK g c (minE g c c.length) k) (c.getD k 0) (nxC c k) - minE g c c.length))) (some (rbOf vs (c.getD k 0))) ∧ wx.cell? ⟨rbOf vs (c.getD k 0), nxC c k, none⟩ = some (.int .i64 (cellOf (takeK g c (minE g c c.length) k) (c.getD k 0) (nxC c k))) ∧ wx.frozen? ⟨rbOf vs (c.getD k 0), nxC c k, none⟩ = false ∧ B ≤ rbOf vs (c.getD k 0) ∧ rbOf vs (c.getD k 0) < wx.heap.size) := fun wx k hk h => by
        have hl := takeK_len g c (minE g c c.length) k
        have hs := takeK_sq (vDebts_sq HD1.out) c (minE g c c.length) k
        have he := HED.out k hk
        exact h.setCell (by rw [hl]; exact he.1) (by rw [hs _ (by rw [hl]; exact he.1), hl]; exact he.2) _
      have HRBW : Hid (∀ k, k < c.length → rbOf vs (c.getD k 0) < w.heap.size) := fun k hk => by
        have he := HED.out k hk
        exact (HOWN.out.setCell he.1 (by rw [vDebts_sq HD1.out _ he.1]; exact he.2) 0).2.2.2.2.2
      have HTB : Hid (∀ k, k ≤ c.length → ∀ a b, a < g.length → b < g.length → 0 ≤ cellOf (takeK g c (minE g c c.length) k) a b ∧ cellOf (takeK g c (minE g c c.length) k) a b ≤ 50) := fun k hk a b ha hb => by
        have h1 := takeK_bounds HD1.out HGD.out HCL.out k hk a b ha hb
        have h2 := (((vDebts_iff g).1 HD1.out).2 a ha).2.2 b hb
        omega
      have hown := HOWN.out.below hbl
      have hcells := HCQ.out wr hq
      have HCE : Hid (∀ k, k < c.length → wr.cell? ⟨gq, k, none⟩ = some (.pointer (some ⟨rbOf vs (c.getD k 0), nxC c k, none⟩)) ∧ wr.cell? ⟨rbOf vs (c.getD k 0), nxC c k, none⟩ = some (.int .i64 (edgeC g c k))) := fun k hk => by
        have he := HED.out k hk
        exact ⟨hcells k hk, (hown.setCell he.1 (by rw [vDebts_sq HD1.out _ he.1]; exact he.2) 0).2.2.1⟩
      have HM1 : Hid (∀ k, minE g c (k + 1) = if edgeC g c k < minE g c k then edgeC g c k else minE g c k) := fun k => rfl
      have HQ := Lib.hid hq
      have HO := Lib.hid hown
      have HBL := Lib.hid (hbl.mono hB)
      clear hcells hq hown hbl
      have hps : (ptrsC c (rbOf vs) c.length).length = c.length := hpl
      clear hpl
      rw [hps]
      have HPS := Lib.hid hps
      clear hps
      go_wp2
      go_loop [8, 40] (fun lv s => ∃ k : Nat, k ≤ c.length ∧ s = .int .i64 k ∧ lv = .int .i64 (minE g c k)) (fun _ s => c.length - (intOf s).toNat)
      case atStart => exact ⟨0, Nat.zero_le _, rfl, rfl⟩
      case round =>
        obtain ⟨k, hk, rfl, rfl⟩ := hrel
        by_cases hlt : k < c.length
        · have i1 : (k : Int) < (c.length : Int) := by omega
          obtain ⟨c1, c2⟩ := HCE.out k hlt
          have hm1 := HM1.out k
          have HM := Lib.hid hm1
          clear hm1
          generalize rbOf vs (c.getD k 0) = rb at c1 c2
          generalize edgeC g c k = e at *
          generalize minE g c k = mk at *
          go_wp2
          go_round
          case rel => exact ⟨k + 1, by omega, by go_num, by rw [HM.out]⟩
          case measure => simp [intOf]; omega
        · have hke : k = c.length := by omega
          subst hke
          have HDN : Hid (downC g c = takeK g c (minE g c c.length) c.length) := rfl
          have hgq := hql.1
          go_wp2
          generalize minE g c c.length = L at *
          go_loopw [52] (fun s wx => ∃ k : Nat, k ≤ c.length ∧ s = .int .i64 k ∧ OwnTV wx B (.slice (some ⟨gt, 0, none⟩) g.length capt) vs (takeK g c L k) ∧ OwnQ wx w.heap.size (.slice (some ⟨gq, 0, none⟩) (ptrsC c (rbOf vs) c.length).length cq) (ptrsC c (rbOf vs) c.length) ∧ Below B w wx) (fun s _ => c.length - (intOf s).toNat)
          case atStart => exact ⟨0, Nat.zero_le _, rfl, HO.out, HQ.out, HBL.out⟩
          case round =>
            obtain ⟨k, hk, rfl, hown, hq, hbl⟩ := hrel
            rename World => wx
            by_cases hlt : k < c.length
            · have i1 : (k : Int) < (c.length : Int) := by omega
              have c1 := HCQ.out wx hq k hlt
              obtain ⟨t1, t2, c2, f2, t5, _⟩ := HTK.out wx k hlt hown
              have hrb := HRBW.out k hlt
              have he := HED.out k hlt
              have hbd := HTB.out k hk _ _ he.1 he.2
              have q2 := hq.kept t2 (.inr (fun e => by (simp only [Value.ownBlock, Option.some.injEq] at e); omega))
              have hb2 : Below B w _ := hbl.trans (below_grown t2 (Nat.le_trans hB hbl.size) (fun j hj => by cases hj; exact t5))
              have T1 := Lib.hid t1
              have Q2 := Lib.hid q2
              have HB2 := Lib.hid hb2
              clear t1 t2 q2 hb2 hown hq he
              generalize cellOf (takeK g c L k) (c.getD k 0) (nxC c k) = x at *
              have wx1 : IntKind.i64.wrap (x - L) = x - L := IntWalk.i64_in _ (by omega)
              generalize rbOf vs (c.getD k 0) = rb at *
              generalize nxC c k = nk at *
              go_wp2
              go_roundw
              case rel => exact ⟨k + 1, by omega, by go_num, T1.out, Q2.out, HB2.out⟩
              case measure => simp [intOf]; omega
            · have hke : k = c.length := by omega
              subst hke
              have HO2 := Lib.hid hown
              clear hown hq
              go_wp2
              go_end0
              exact ⟨rfl, by rw [HDN.out]; exact HO2.out, hbl⟩

end Go.Proofs.Ytbedjebnllimpaa
