/- strings.SplitSeq: the iterator over the pieces of a text. The numbers of a text, in the program. What a line asks, in the program. -/
import Derived.Test.YtpenbkfchgeafaaGreatDoorQDrg
import Derived.Test.YtpenbkfchgeafaaGreatDoorQDna
import Derived.Test.YtpenbkfchgeafaaGreatDoorQDo
import Derived.RangeFuncBound
import Derived.RangeFuncCalls
import Derived.RangeFuncLeaves
import Derived.Shelf.Abstract
import Derived.Shelf.RegionOpen
import Derived.WalkKit
import Derived.OwnWalkIn
import Derived.TacticsInMore
import Derived.LoopNIn
import Derived.LoopIn
import Derived.Maps.AppendAt
import Derived.BigQuiet
namespace Go.Proofs.YtpenbkfchgeafaaGreatDoor
open Go.RowKit Go.Shelf Go.Lib

attribute [local go_sem] Oper.semAt_some

theorem byte_ge (c : UInt8) : ∀ l : List UInt8, -1 ≤ indexByte l c
  | [] => by simp [indexByte]
  | b :: l => by
    have := byte_ge c l
    unfold indexByte
    split
    · omega
    · split <;> omega
theorem first_none {c : UInt8} : ∀ {l : List UInt8}, indexByte l c < 0 → pieces c l = [l]
  | [], _ => rfl
  | b :: l, h => by
    have hg := byte_ge c l
    unfold indexByte at h
    by_cases hb : b = c
    · simp [hb] at h
    · rw [if_neg (by simpa using hb)] at h
      have hl : indexByte l c < 0 := by
        split at h
        · rename_i e
          have := eq_of_beq e
          omega
        · omega
      rw [pieces, if_neg hb, first_none hl]
      rfl
theorem first_some {c : UInt8} : ∀ {l : List UInt8} {i : Nat}, indexByte l c = i → i < l.length ∧ pieces c l = l.take i :: pieces c (l.drop (i + 1))
  | [], i, h => by simp [indexByte] at h
  | b :: l, i, h => by
    have hg := byte_ge c l
    unfold indexByte at h
    by_cases hb : b = c
    · have : i = 0 := by simp [hb] at h; omega
      subst this
      exact ⟨by simp, by simp [pieces, hb]⟩
    · rw [if_neg (by simpa using hb)] at h
      split at h
      · omega
      · rename_i e
        have hne : indexByte l c ≠ -1 := fun x => e (by simp [x])
        obtain ⟨j, hj⟩ : ∃ j : Nat, indexByte l c = j := ⟨(indexByte l c).toNat, by omega⟩
        obtain rfl : i = j + 1 := by omega
        obtain ⟨h1, h2⟩ := first_some hj
        refine ⟨by simp; omega, ?_⟩
        rw [pieces, if_neg hb, h2]
        rfl

/-- A piece: a text not longer than m. -/
abbrev Part (m : Nat) := { x : ByteArray // x.size ≤ m }
def partL {m : Nat} (xs : List (Part m)) : List (List UInt8) := xs.map fun x => x.1.data.toList

/-- The three boxes of the iterator lie as they lay. -/
def Boxes (B : Nat) (A A' : World) : Prop := ∀ k, B ≤ k → k < B + 3 → A'.heap[k]? = A.heap[k]?
theorem Boxes.trans {B : Nat} {X Y Z : World} (h : Boxes B X Y) (k : Boxes B Y Z) : Boxes B X Z := fun i h1 h2 => (k i h1 h2).trans (h i h1 h2)
theorem Boxes.put {B : Nat} (W : World) (l : Nat) (o : Obj) (h : B + 3 ≤ l) : Boxes B W (W.putObj l o) := fun k _ h2 => World.putObj_heap_other (by omega)
theorem Boxes.cell {B : Nat} {A A' : World} (h : Boxes B A A') {k : Nat} (h1 : B ≤ k) (h2 : k < B + 3) (off : Nat) : A'.cell? ⟨k, off, none⟩ = A.cell? ⟨k, off, none⟩ := World.cell?_of_block (a := ⟨k, off, none⟩) (h k h1 h2)
theorem Boxes.frozen {B : Nat} {A A' : World} (h : Boxes B A A') {k : Nat} (h1 : B ≤ k) (h2 : k < B + 3) (off : Nat) : A'.frozen? ⟨k, off, none⟩ = A.frozen? ⟨k, off, none⟩ := World.frozen?_of_block (a := ⟨k, off, none⟩) (h k h1 h2)

set_option maxHeartbeats 1000000 in
theorem splitSeq_impl (s : ByteArray) (w : World) :
    Calls Tryz.prog 65 #[.string s, .string ⟨#[44]⟩] w fun e w' => e = .returned (.func (.func 96) #[] #[.pointer (some ⟨w.heap.size + 1, 0, none⟩), .pointer (some ⟨w.heap.size, 0, none⟩), .pointer (some ⟨w.heap.size + 2, 0, none⟩)]) ∧
      w' = ((w.alloc (.cells #[.string s] 9)).alloc (.cells #[.string ⟨#[44]⟩] 9)).alloc (.cells #[.int .i64 0] 3) := by
  go_enter Tryz.func65, Tryz.ntmps65
  go_wp2
  go_ret
  exact ⟨rfl, rfl⟩

/-- Between two rounds of the iterator: what has come, and what is left. -/
def Left (B : Nat) (s : ByteArray) (pre : List (Part s.size)) (r : ByteArray) (W : World) : Prop :=
  (W.cell? ⟨B, 0, none⟩ = some (.string r) ∧ W.frozen? ⟨B, 0, none⟩ = false ∧ W.cell? ⟨B + 1, 0, none⟩ = some (.string ⟨#[44]⟩) ∧ W.cell? ⟨B + 2, 0, none⟩ = some (.int .i64 0)) ∧
    (r.size ≤ s.size ∧ partL pre ++ pieces 44 r.data.toList = pieces 44 s.data.toList)

/-- How long the text in the iterator's box is. -/
def boxLen (B : Nat) (W : World) : Nat := match W.cell? ⟨B, 0, none⟩ with
  | some (.string r) => r.size
  | _ => 0
theorem boxLen_eq {B : Nat} {W : World} {r : ByteArray} (h : W.cell? ⟨B, 0, none⟩ = some (.string r)) : boxLen B W = r.size := by
  unfold boxLen
  rw [h]
theorem Left.boxes {B : Nat} {s r : ByteArray} {pre : List (Part s.size)} {A A' : World} (h : Left B s pre r A) (hb : Boxes B A A') : Left B s pre r A' := by
  obtain ⟨⟨a1, a2, a3, a4⟩, a5⟩ := h
  exact ⟨⟨(hb.cell (Nat.le_refl _) (by omega) 0).trans a1, (hb.frozen (Nat.le_refl _) (by omega) 0).trans a2, (hb.cell (by omega) (by omega) 0).trans a3, (hb.cell (by omega) (by omega) 0).trans a4⟩, a5⟩
theorem Left.next {B : Nat} {s r : ByteArray} {pre : List (Part s.size)} {A : World} (h : Left B s pre r A) {i : Nat} (hi : indexByte r.data.toList 44 = i) (x : Part s.size) (hx : x.1 = r.extract 0 i) :
    i < r.size ∧ Left B s (pre ++ [x]) (r.extract (i + 1) r.size) (A.setCell ⟨B, 0, none⟩ (.string (r.extract (i + 1) r.size))) := by
  obtain ⟨⟨a1, a2, a3, a4⟩, a5, a6⟩ := h
  obtain ⟨h1, h2⟩ := first_some hi
  have h1' : i < r.size := by simpa using h1
  refine ⟨h1', ⟨World.cell?_setCell_same' _ _ _ (by rw [a1]; rfl), by rw [World.frozen?_setCell]; exact a2, (World.cell?_setCell_other _ _ _ _ (by simp)).trans a3, (World.cell?_setCell_other _ _ _ _ (by simp)).trans a4⟩, by simp; omega, ?_⟩
  rw [← a6, h2]
  have e1 : x.1.data.toList = r.data.toList.take i := by rw [hx, extract_list]; simp
  have e2 : (r.extract (i + 1) r.size).data.toList = r.data.toList.drop (i + 1) := by rw [extract_list, List.take_of_length_le (by simp)]
  rw [e2]
  unfold partL
  rw [List.map_append, List.map_singleton, e1, List.append_assoc]
  rfl
theorem Left.last {B : Nat} {s r : ByteArray} {pre : List (Part s.size)} {A : World} (h : Left B s pre r A) (hp : pieces 44 r.data.toList = [r.data.toList]) (hr : r.size ≤ s.size) : partL (pre ++ [⟨r, hr⟩]) = pieces 44 s.data.toList := by
  rw [← h.2.2, hp]
  unfold partL
  rw [List.map_append, List.map_singleton]
theorem Left.short {B : Nat} {s r : ByteArray} {pre : List (Part s.size)} {A : World} (h : Left B s pre r A) : pre.length < s.size + 1 := by
  have h1 := congrArg List.length h.2.2
  have h2 := (pieces_len 44 s.data.toList).1
  have h3 : 0 < (pieces 44 r.data.toList).length := List.length_pos_iff.2 (pieces_ne _ _)
  have h4 : s.data.toList.length = s.size := by simp
  unfold partL at h1
  rw [List.length_append, List.length_map] at h1
  omega

set_option maxRecDepth 100000 in
set_option maxHeartbeats 2000000 in
theorem split_stops (n : Nat) (hn : 1 ≤ n) (B : Nat) (s : ByteArray) (w : World) (hs : s.size ≤ 1048576) (hL : Left B s [] s w) (hB : B + 3 ≤ w.heap.size) :
    SeqBox Fence.wide n Tryz.prog 96 #[.pointer (some ⟨B + 1, 0, none⟩), .pointer (some ⟨B, 0, none⟩), .pointer (some ⟨B + 2, 0, none⟩)] (fun x : Part s.size => #[.string x.1]) B (Boxes B) (fun xs => partL xs = pieces 44 s.data.toList) (fun xs => ∃ rest, partL xs ++ rest = pieces 44 s.data.toList) (s.size + 1) w := fun l J Jx W hbW hJ hY h0 => by
  have hL0 : Left B s [] s W := by
    obtain ⟨⟨a1, a2, a3, a4⟩, a5⟩ := hL
    exact ⟨⟨(hbW.cell (p := ⟨B, 0, none⟩) (by simp; omega)).trans a1, (hbW.frozen (p := ⟨B, 0, none⟩) (by simp; omega)).trans a2, (hbW.cell (p := ⟨B + 1, 0, none⟩) (by simp; omega)).trans a3, (hbW.cell (p := ⟨B + 2, 0, none⟩) (by simp; omega)).trans a4⟩, a5⟩
  have b1 := hL0.1.2.2.1
  refine callsIn_of_wp Tryz.func96 rfl trivial ?_ rfl
  simp only [Tryz.ntmps96, List.size_toArray, List.length_cons, List.length_nil, Nat.reduceAdd, Nat.reduceSub, Array.replicate_succ, Array.replicate_zero, List.push_toArray, List.append_toArray, List.nil_append, List.cons_append]
  gi_wp2
  gi_loopw [7] (fun _ wr => ∃ (pre : List (Part s.size)) (r : ByteArray), Left B s pre r wr ∧ J pre wr) (fun _ wr => boxLen B wr)
  case atStart => exact ⟨[], s, hL0, h0⟩
  case round =>
    obtain ⟨pre, r, hl, hj⟩ := hrel
    clear hL0 b1
    have HJ := Lib.hid hJ
    have hsh := hl.short
    have b0 := hl.1.1
    have b1 := hl.1.2.2.1
    have b2 := hl.1.2.2.2
    have hrs := hl.2.1
    have HLR := Lib.hid hl
    clear hJ hl
    gi_wp2_with fail
    refine ⟨trivial, (callsIn_wide.2 (Tryz.strings_Index_one r 44 wr)).mono ?_⟩
    rintro e w2 ⟨rfl, rfl⟩
    by_cases hi : indexByte r.data.toList 44 < 0
    · have HP := Lib.hid (first_none hi)
      obtain ⟨fn, tmps, assign, body, hy, hR⟩ := hY pre ⟨r, hrs⟩ w2 hj hsh
      generalize indexByte r.data.toList 44 = q at *
      gi_wp2
      refine hR.mono ?_
      rintro e W3 (⟨rfl, hJ3, hk3⟩ | ⟨rfl, hJx3⟩)
      · gi_wp2
        go_end0
        exact ⟨⟨_, rfl⟩, .inl ⟨_, HLR.out.last HP.out hrs, hJ3⟩⟩
      · gi_wp2
        go_end0
        exact ⟨⟨_, rfl⟩, .inr ⟨_, ⟨[], by rw [List.append_nil]; exact HLR.out.last HP.out hrs⟩, hJx3⟩⟩
    · obtain ⟨i, hq⟩ : ∃ i : Nat, indexByte r.data.toList 44 = i := ⟨(indexByte r.data.toList 44).toNat, by omega⟩
      have hx0 : (r.extract 0 i).size ≤ s.size := by simp; omega
      have HN := Lib.hid (HLR.out.next hq ⟨r.extract 0 i, hx0⟩ rfl)
      have i1 := HN.out.1
      rw [hq]
      obtain ⟨fn, tmps, assign, body, hy, hR⟩ := hY pre ⟨r.extract 0 i, hx0⟩ w2 hj hsh
      clear hi
      gi_wp2
      refine hR.mono ?_
      rintro e W3 (⟨rfl, hJ3, hk3⟩ | ⟨rfl, hJx3⟩)
      · have HL3 := Lib.hid ((HLR.out.boxes hk3).next hq ⟨r.extract 0 i, hx0⟩ rfl)
        have hl3 := HLR.out.boxes hk3
        have c0 := hl3.1.1
        have c1 := hl3.1.2.2.1
        have f0 := hl3.1.2.1
        have HJ3 := Lib.hid (HJ.out _ _ (.string (r.extract (i + 1) r.size)) hJ3)
        have HM := Lib.hid (boxLen_eq b0)
        clear hl3
        gi_wp2
        go_roundw
        case rel => exact ⟨_, _, HL3.out.2, HJ3.out⟩
        case measure => rw [HM.out, boxLen_eq HL3.out.2.1.1]; simp; omega
      · gi_wp2
        refine bodyPost_ret (results_none rfl _ _ _) rfl ?_
        exact ⟨⟨_, rfl⟩, .inr ⟨_, ⟨_, HN.out.2.2.2⟩, hJx3⟩⟩
end Go.Proofs.YtpenbkfchgeafaaGreatDoor

namespace Go.Proofs.YtpenbkfchgeafaaGreatDoor
open Go.RowKit Go.Shelf Go.Lib

attribute [local go_sem] Oper.semAt_some

theorem numsV_snoc {p : List UInt8} {n : Int} (hn : numV p = some n) : ∀ {ps : List (List UInt8)} {ns : List Int}, numsV ps = some ns → numsV (ps ++ [p]) = some (ns ++ [n])
  | [], ns, h => by
    simp only [numsV, Option.some.injEq] at h
    subst h
    simp [numsV, hn]
  | q :: ps, ns, h => by
    simp only [numsV] at h
    cases hq : numV q with
    | none => rw [hq] at h; cases h
    | some m =>
      rw [hq] at h
      cases hr : numsV ps with
      | none => rw [hr] at h; cases h
      | some ms =>
        rw [hr] at h
        simp only [Option.some.injEq] at h
        subst h
        simp only [List.cons_append, numsV, hq, numsV_snoc hn hr]
theorem numsV_bad {p : List UInt8} (hn : numV p = none) (rest : List (List UInt8)) : ∀ ps : List (List UInt8), numsV (ps ++ [p] ++ rest) = none
  | [] => by simp [numsV, hn]
  | q :: ps => by
    have ih := numsV_bad hn rest ps
    simp only [List.cons_append, numsV, ih]
    cases numV q <;> rfl
theorem numsV_len : ∀ {ps : List (List UInt8)} {ns : List Int}, numsV ps = some ns → ns.length = ps.length
  | [], ns, h => by simp only [numsV, Option.some.injEq] at h; subst h; rfl
  | q :: ps, ns, h => by
    simp only [numsV] at h
    cases hq : numV q with
    | none => rw [hq] at h; cases h
    | some m =>
      rw [hq] at h
      cases hr : numsV ps with
      | none => rw [hr] at h; cases h
      | some ms =>
        rw [hr] at h
        simp only [Option.some.injEq] at h
        subst h
        simp [numsV_len hr]
theorem numR_some {s : ByteArray} {n : Int} (h : numV s.data.toList = some n) : numR s = .tuple #[.int .i64 n, .nilIface] := by
  unfold numR
  rw [h]
theorem numR_none {s : ByteArray} (h : numV s.data.toList = none) : numR s = .tuple #[.int .i64 0, .iface 55 (.string s)] := by
  unfold numR
  rw [h]

/-- The numbers of what has come. -/
def nsOf {m : Nat} (pre : List (Part m)) : List Int := (numsV (partL pre)).getD []
def numsI (w : World) (k : Nat) {m : Nat} (pre : List (Part m)) (W : World) : Prop :=
  numsV (partL pre) = some (nsOf pre) ∧ (∃ v, Boxed W (k + 2) 35 v ∧ W.ownsRow (k + 6) 3 1 v (nsOf pre).length ((nsOf pre).map (Value.int .i64)) ∧ True) ∧
    Boxed W k 35 (.slice none 0 0) ∧ Boxed W (k + 1) 45 .nilIface ∧ (∃ u, Boxed W (k + 3) 9 u) ∧ Below k w W ∧ k + 6 ≤ W.heap.size
def numsX (w : World) (k : Nat) {m : Nat} (pre : List (Part m)) (W : World) : Prop :=
  (∀ rest, numsV (partL pre ++ rest) = none) ∧ Boxed W k 35 (.slice none 0 0) ∧ (∃ t, Boxed W (k + 1) 45 (.iface 55 (.string t))) ∧ Below k w W

theorem boxed_ex {β : Type} {γ : Type} (B : Nat) (t : TypeId) (f : γ → Value) : Go.Own (fun (_ : β) W => ∃ u, Boxed W B t (f u)) := fun s X Y row hs hg hrow => by
  obtain ⟨u, hu⟩ := hs
  exact ⟨u, hu.kept hg (fun e' => by obtain ⟨o, ho, hc⟩ := hrow B e'.symm; rw [show X.heap[B]? = _ from hu] at ho; cases ho; cases hc)⟩
theorem numsI_own (w : World) (k B m : Nat) (hw : w.heap.size = k) (hB : k ≤ B) : OwnFrom B (fun (pre : List (Part m)) W => numsI w k pre W) :=
  OwnFrom.and (ownFrom_pure B fun pre => numsV (partL pre) = some (nsOf pre)) (OwnFrom.and (Go.Own.from (holdsRow_own (k + 6) (k + 2) 35 3 1 (fun pre => (nsOf pre).length) (fun pre => (nsOf pre).map (Value.int .i64)) fun _ _ => True) B)
    (OwnFrom.and (Go.Own.from (boxed_own k 35 fun _ => .slice none 0 0) B) (OwnFrom.and (Go.Own.from (boxed_own (k + 1) 45 fun _ => .nilIface) B) (OwnFrom.and (Go.Own.from (boxed_ex (k + 3) 9 fun u : Value => u) B) (OwnFrom.and (ownFrom_below (by omega) hB) (fun s W W' row hs hg hr => Nat.le_trans hs hg.size))))))
theorem numsX_own (w : World) (k B m : Nat) (hw : w.heap.size = k) (hB : k ≤ B) : OwnFrom B (fun (pre : List (Part m)) W => numsX w k pre W) :=
  OwnFrom.and (ownFrom_pure B fun pre => ∀ rest, numsV (partL pre ++ rest) = none) (OwnFrom.and (Go.Own.from (boxed_own k 35 fun _ => .slice none 0 0) B)
    (OwnFrom.and (Go.Own.from (boxed_ex (k + 1) 45 fun t : ByteArray => .iface 55 (.string t)) B) (ownFrom_below (by omega) hB)))
theorem numsI_set {w : World} {k m : Nat} {pre : List (Part m)} {W : World} (h : numsI w k pre W) (v : Value) : numsI w k pre (W.setCell ⟨k + 3, 0, none⟩ v) := by
  obtain ⟨h1, ⟨u, hu, hr, _⟩, h2, h3, ⟨r, h4⟩, h5, h6⟩ := h
  exact ⟨h1, ⟨u, hu.other (by omega) _, World.ownsRow.kept hr (grownBy_setCell' W (k + 3) v) (.inr (h4.not_row (by decide) hr).symm), trivial⟩, h2.other (by omega) _, h3.other (by omega) _, ⟨v, h4.set v⟩, h5.setCell (p := ⟨k + 3, 0, none⟩) (by simp) _, by simpa using h6⟩

/-- What an append does to the boxes below the row. -/
theorem row_appended {W w1 : World} {n1 e : Nat} {v : Value} {k : Nat} {xs : List Value} {tmp : Obj} (hrow : W.ownsRow n1 e 1 v k xs) (hn : n1 ≤ W.heap.size) (hg : (W.alloc tmp).grownBy w1 v.ownBlock) : Below n1 W w1 ∧ KeepsOthers W w1 := by
  constructor
  · refine ((Below.refl n1 W).alloc hn tmp).grown hg (by simp; omega) fun j ej => ?_
    rcases hrow.2 with ⟨rfl, _⟩ | ⟨g, cap, cur, rfl, hb, _, _⟩
    · simp [Value.ownBlock] at ej
    · obtain rfl : g = j := by simpa [Value.ownBlock] using ej
      exact hb
  · refine (KeepsOthers.alloc W tmp).trans (KeepsOthers.of_grownBy hg fun j _ ej hj => ?_)
    rcases (hrow.alloc tmp).2 with ⟨rfl, _⟩ | ⟨g, cap, cur, rfl, _, hgb, _⟩
    · simp [Value.ownBlock] at ej
    · obtain rfl : g = j := by simpa [Value.ownBlock] using ej
      rw [hgb] at hj; cases hj; rfl
theorem boxed_below {W W' : World} {n B : Nat} {t : TypeId} {v : Value} (h : Boxed W B t v) (hb : Below n W W') (hB : B < n) : Boxed W' B t v := (hb.block B hB).trans h
theorem keeps_below {W W' : World} {B : Nat} (hb : Below W.heap.size W W') : KeepsFrom B W W' :=
  ⟨hb.size, fun k _ _ hk _ => (hb.block k (Array.getElem?_eq_some_iff.1 hk).1).trans hk⟩
theorem row_slice {W : World} {n1 e : Nat} {v : Value} {k : Nat} {xs : List Value} (hrow : W.ownsRow n1 e 1 v k xs) : ∃ a m c, v = .slice a m c := by
  rcases hrow.2 with ⟨rfl, _⟩ | ⟨g, cap, cur, rfl, _, _, _⟩
  · exact ⟨_, _, _, rfl⟩
  · exact ⟨_, _, _, rfl⟩
theorem row_set {W : World} {n1 e B : Nat} {v : Value} {k : Nat} {xs : List Value} (hrow : W.ownsRow n1 e 1 v k xs) (hB : B < n1) (u : Value) : (W.setCell ⟨B, 0, none⟩ u).ownsRow n1 e 1 v k xs := by
  refine World.ownsRow.kept hrow (grownBy_setCell' W B u) ?_
  rcases hrow.2 with ⟨rfl, _⟩ | ⟨g, cap, cur, rfl, hb, _, _⟩
  · exact .inl rfl
  · exact .inr fun e => by
      obtain rfl : g = B := by simpa [Value.ownBlock] using e
      omega

theorem nums_start (s : ByteArray) (w W : World) (k : Nat) (hk : w.heap.size = k)
    (h : W = (((((w.alloc (.cells #[.slice none 0 0] 35)).alloc (.cells #[.nilIface] 45)).alloc (.cells #[.slice none 0 0] 35)).alloc (.cells #[.string s] 9)).alloc (.cells #[.string ⟨#[44]⟩] 9)).alloc (.cells #[.int .i64 0] 3)) :
    numsI w k (m := s.size) [] W ∧ Left (k + 3) s [] s W ∧ W.heap.size = k + 6 := by
  subst hk
  have a0 := ((((Boxed.new w 35 (.slice none 0 0)).alloc (.cells #[.nilIface] 45)).alloc (.cells #[.slice none 0 0] 35)).alloc (.cells #[.string s] 9)).alloc (.cells #[.string ⟨#[44]⟩] 9) |>.alloc (.cells #[.int .i64 0] 3)
  have a1 := (((Boxed.new (w.alloc (.cells #[.slice none 0 0] 35)) 45 .nilIface).alloc (.cells #[.slice none 0 0] 35)).alloc (.cells #[.string s] 9)).alloc (.cells #[.string ⟨#[44]⟩] 9) |>.alloc (.cells #[.int .i64 0] 3)
  have a2 := ((Boxed.new ((w.alloc (.cells #[.slice none 0 0] 35)).alloc (.cells #[.nilIface] 45)) 35 (.slice none 0 0)).alloc (.cells #[.string s] 9)).alloc (.cells #[.string ⟨#[44]⟩] 9) |>.alloc (.cells #[.int .i64 0] 3)
  have a3 := (Boxed.new (((w.alloc (.cells #[.slice none 0 0] 35)).alloc (.cells #[.nilIface] 45)).alloc (.cells #[.slice none 0 0] 35)) 9 (.string s)).alloc (.cells #[.string ⟨#[44]⟩] 9) |>.alloc (.cells #[.int .i64 0] 3)
  have a4 := (Boxed.new ((((w.alloc (.cells #[.slice none 0 0] 35)).alloc (.cells #[.nilIface] 45)).alloc (.cells #[.slice none 0 0] 35)).alloc (.cells #[.string s] 9)) 9 (.string ⟨#[44]⟩)).alloc (.cells #[.int .i64 0] 3)
  have a5 := Boxed.new (((((w.alloc (.cells #[.slice none 0 0] 35)).alloc (.cells #[.nilIface] 45)).alloc (.cells #[.slice none 0 0] 35)).alloc (.cells #[.string s] 9)).alloc (.cells #[.string ⟨#[44]⟩] 9)) 3 (.int .i64 0)
  have hb : Below w.heap.size w W := by
    rw [h]
    exact ((((((Below.refl _ w).alloc (Nat.le_refl _) _).alloc (by simp) _).alloc (by simp; omega) _).alloc (by simp; omega) _).alloc (by simp; omega) _).alloc (by simp; omega) _
  have hz : W.heap.size = w.heap.size + 6 := by rw [h]; simp
  rw [← h] at a0 a1 a2 a3 a4 a5
  simp only [World.size_alloc, Nat.add_assoc, Nat.reduceAdd] at a1 a2 a3 a4 a5
  refine ⟨⟨rfl, ⟨_, a2, World.ownsRow_nil _ _ _ _, trivial⟩, a0, a1, ⟨_, a3⟩, hb, by omega⟩, ⟨⟨a3.cell, a3.frozen, a4.cell, a5.cell⟩, Nat.le_refl _, rfl⟩, hz⟩

theorem Boxes.below {B n : Nat} {A A' : World} (h : Below n A A') (hn : B + 3 ≤ n) : Boxes B A A' := fun k _ h2 => h.block k (by omega)
theorem Boxes.setCell {B b : Nat} (W : World) (v : Value) (h : b < B) : Boxes B W (W.setCell ⟨b, 0, none⟩ v) := fun k h1 _ => Below.heap_setCell _ _ _ k (by simp; omega)
theorem nsOf_snoc {m : Nat} {pre : List (Part m)} {x : Part m} {n : Int} (h : numsV (partL pre) = some (nsOf pre)) (hn : numV x.1.data.toList = some n) : nsOf (pre ++ [x]) = nsOf pre ++ [n] ∧ numsV (partL (pre ++ [x])) = some (nsOf (pre ++ [x])) := by
  have e : numsV (partL (pre ++ [x])) = some (nsOf pre ++ [n]) := by
    unfold partL
    rw [List.map_append, List.map_singleton]
    exact numsV_snoc hn h
  have e2 : nsOf (pre ++ [x]) = nsOf pre ++ [n] := by
    conv => lhs; unfold nsOf
    rw [e]
    rfl
  exact ⟨e2, by rw [e, e2]⟩
theorem nsOf_len {m : Nat} {pre : List (Part m)} (h : numsV (partL pre) = some (nsOf pre)) : (nsOf pre).length = pre.length := by
  rw [numsV_len h]
  unfold partL
  rw [List.length_map]
theorem nums_out {w W : World} {k m : Nat} {pre : List (Part m)} {x : Part m} (q0 : Boxed W k 35 (.slice none 0 0)) (q1 : Boxed W (k + 1) 45 .nilIface) (hB : Below k w W) (hx : numV x.1.data.toList = none) :
    numsX w k (pre ++ [x]) ((W.setCell ⟨k, 0, none⟩ (.slice none 0 0)).setCell ⟨k + 1, 0, none⟩ (.iface 55 (.string x.1))) := by
  refine ⟨fun rest => ?_, (q0.set _).other (by omega) _, ⟨_, (q1.other (by omega) _).set _⟩, (hB.setCell (p := ⟨k, 0, none⟩) (Nat.le_refl _) _).setCell (p := ⟨k + 1, 0, none⟩) (by simp) _⟩
  unfold partL
  rw [List.map_append, List.map_singleton]
  exact numsV_bad hx rest _
theorem nums_go {w W w1 : World} {k m : Nat} {pre : List (Part m)} {x : Part m} {n : Int} {v v' : Value} {tmp : Obj} (hns : numsV (partL pre) = some (nsOf pre)) (hn : numV x.1.data.toList = some n) (hv : Boxed W (k + 2) 35 v) (hrow : W.ownsRow (k + 6) 3 1 v (nsOf pre).length ((nsOf pre).map (Value.int .i64)))
    (q0 : Boxed W k 35 (.slice none 0 0)) (q1 : Boxed W (k + 1) 45 .nilIface) (q3 : ∃ u, Boxed W (k + 3) 9 u) (hB : Below k w W) (hz : k + 6 ≤ W.heap.size)
    (hown : w1.ownsRow (k + 6) 3 1 v' ((nsOf pre).length + 1) ((nsOf pre).map (Value.int .i64) ++ [.int .i64 n])) (hg : (W.alloc tmp).grownBy w1 v.ownBlock) :
    Boxed w1 (k + 2) 35 v ∧ (numsI w k (pre ++ [x]) (w1.setCell ⟨k + 2, 0, none⟩ v') ∧ KeepsOthers W (w1.setCell ⟨k + 2, 0, none⟩ v') ∧ Boxes (k + 3) W (w1.setCell ⟨k + 2, 0, none⟩ v')) := by
  obtain ⟨bb, kk⟩ := row_appended hrow hz hg
  have p2 := boxed_below hv bb (by omega)
  obtain ⟨u, q3⟩ := q3
  refine ⟨p2, ⟨(nsOf_snoc hns hn).2, ⟨_, p2.set _, ?_, trivial⟩, (boxed_below q0 bb (by omega)).other (by omega) _, (boxed_below q1 bb (by omega)).other (by omega) _, ⟨u, (boxed_below q3 bb (by omega)).other (by omega) _⟩,
    (hB.trans (bb.mono (by omega))).setCell (p := ⟨k + 2, 0, none⟩) (by simp) _, by have := bb.size; simp; omega⟩, kk.trans (KeepsOthers.setCell _ _ _), (Boxes.below bb (by omega)).trans (Boxes.setCell _ _ (by omega))⟩
  rw [(nsOf_snoc hns hn).1, List.length_append, List.map_append]
  exact row_set hown (by omega) _

theorem results53 {W : World} {k : Nat} {v er : Value} {tmps : Array Value} (h2 : tmps[2]?.getD undef = .pointer (some ⟨k, 0, none⟩)) (h3 : tmps[3]?.getD undef = .pointer (some ⟨k + 1, 0, none⟩)) (c0 : W.cell? ⟨k, 0, none⟩ = some v) (c1 : W.cell? ⟨k + 1, 0, none⟩ = some er) :
    (results Tryz.f53 tmps).run Tryz.prog W = .ok (.tuple #[v, er]) W := by
  have l0 : (loadVar 35 ⟨k, 0, none⟩).run Tryz.prog W = .ok v W := by simp [loadVar, isAgg, underlying, Tryz.underlying35, c0, Result.andThen]
  have l1 : (loadVar 45 ⟨k + 1, 0, none⟩).run Tryz.prog W = .ok er W := by simp [loadVar, isAgg, underlying, Tryz.underlying45, c1, Result.andThen]
  simp [results, h2, h3, asAddr, l0, l1, Sem.run_bind, Result.andThen]
theorem putDef_cell {W : World} {D : Nat} {p : Addr} {v : Value} (hK : W.heap[D]? = some (.deferred (some []))) (h : W.cell? p = some v) : (W.putObj D (.deferred none)).cell? p = some v :=
  cell_kept h (grownBy_putObj' _ D (.deferred none)) (fun r e => by cases e; exact ⟨_, hK, rfl⟩)

set_option maxRecDepth 100000 in
set_option maxHeartbeats 3200000 in
theorem numbersOf_impl (s : ByteArray) (w : World) (hs : s.size ≤ 1048575) (hL : LaidW w) :
    Calls Tryz.prog 53 #[.string s] w fun e w' => ∃ v er, e = .returned (.tuple #[v, er]) ∧ ((∃ ns, numsV (pieces 44 s.data.toList) = some ns ∧ er = .nilIface ∧ Go.Proofs.YtpenbkfchgeafaaGreatDoor.Own w' w.heap.size v ns) ∨
      (numsV (pieces 44 s.data.toList) = none ∧ ∃ t, er = .iface 55 (.string t))) ∧ Below w.heap.size w w' := by
  have HLW := Lib.hid hL
  clear hL
  obtain ⟨i0, hi, hz0, hz1, hz2⟩ := info_parts infoInt
  obtain ⟨k, hk⟩ : ∃ k, w.heap.size = k := ⟨_, rfl⟩
  refine (callsIn_wide (n := 6)).1 ?_
  refine callsIn_of_wp_marks Tryz.func53 rfl trivial ?_ rfl
  simp only [Tryz.ntmps53, List.size_toArray, List.length_cons, List.length_nil, Nat.reduceAdd, Nat.reduceSub, Array.replicate_succ, Array.replicate_zero, List.push_toArray, List.append_toArray, List.nil_append, List.cons_append]
  gi_wp2_with fail
  refine ⟨trivial, (callsIn_wide.2 (splitSeq_impl s _)).mono ?_⟩
  rintro e w' ⟨rfl, rfl⟩
  simp only [World.size_alloc]
  rw [hk]
  simp only [Nat.add_assoc, Nat.reduceAdd]
  gi_wp2_with fail
  have hst := nums_start s w _ k hk rfl
  generalize (((((w.alloc (.cells #[.slice none 0 0] 35)).alloc (.cells #[.nilIface] 45)).alloc (.cells #[.slice none 0 0] 35)).alloc (.cells #[.string s] 9)).alloc (.cells #[.string ⟨#[44]⟩] 9)).alloc (.cells #[.int .i64 0] 3) = W6 at *
  have HST := Lib.hid hst
  have hz6 := hst.2.2
  clear hst
  refine wpIn_range_box (α := Part s.size) (b := k + 3) rfl (by omega) (gf := 96) (lb := #[.pointer (some ⟨k + 4, 0, none⟩), .pointer (some ⟨k + 3, 0, none⟩), .pointer (some ⟨k + 5, 0, none⟩)]) rfl trivial (enters_of Tryz.func96 (by kernel_rfl) rfl)
    (split_stops _ (by omega) (k + 3) s W6 (by omega) HST.out.2.1 (by omega)) (Below.refl _ _) (fun h h' => h.trans h') (fun W l o hl => Boxes.put W l o (by omega)) (fun _ => rfl) (numsI w k) (numsX w k) (numsI_own w k _ _ hk (by omega)) (numsX_own w k _ _ hk (by omega)) (fun p A v h => numsI_set h v) HST.out.1
    (fun x => { tmps := #[.string s, undef, .pointer (some ⟨k, 0, none⟩), .pointer (some ⟨k + 1, 0, none⟩), .pointer (some ⟨k + 2, 0, none⟩), .string x.1, undef, undef, .string s,
      .func (.func 96) #[] #[.pointer (some ⟨k + 4, 0, none⟩), .pointer (some ⟨k + 3, 0, none⟩), .pointer (some ⟨k + 5, 0, none⟩)], .string x.1, undef, undef, undef, undef, undef, undef, undef, undef, undef, undef, undef, undef, undef], defers := [] }) ?assign ?body ?done ?stop
  case assign =>
    intro l x W K hK
    gi_wp2
    exact hK
  case body =>
    intro l pre x W hI hlen
    obtain ⟨hns, ⟨v, hv, hrow, _⟩, q0, q1, q3, hB, hsz⟩ := hI
    have HN := Lib.hid (numberOf_impl x.1 W (by have := x.2; omega) (HLW.out.step hB (by omega)))
    have hnl : (nsOf pre).length ≤ 1048575 := by rw [nsOf_len hns]; omega
    gi_wp2_with fail
    refine ⟨trivial, (CallsIn.inRound l (callsIn_wide.2 HN.out)).mono ?_⟩
    rintro e W2 ⟨rfl, b2⟩
    have p0 := boxed_below q0 b2 (by omega)
    have p1 := boxed_below q1 b2 (by omega)
    have p2 := boxed_below hv b2 (by omega)
    have p3 : ∃ u, Boxed W2 (k + 3) 9 u := q3.elim fun u h => ⟨u, boxed_below h b2 (by omega)⟩
    have r2 : Go.Proofs.YtpenbkfchgeafaaGreatDoor.Own W2 (k + 6) v (nsOf pre) := Own.below (show Go.Proofs.YtpenbkfchgeafaaGreatDoor.Own W (k + 6) v (nsOf pre) from hrow) b2
    have B2 := hB.trans (b2.mono (by omega))
    have z2 : k + 6 ≤ W2.heap.size := Nat.le_trans hsz b2.size
    have HK := Lib.hid (keeps_below (B := W6.heap.size) b2)
    have HBX := Lib.hid (Boxes.below (B := k + 3) b2 (by omega))
    clear hv hrow q0 q1 q3 hB b2
    cases hx : numV x.1.data.toList with
    | none =>
      rw [numR_none hx]
      have HX := Lib.hid (nums_out (pre := pre) p0 p1 B2 hx)
      have c0 := p0.cell
      have f0 := p0.frozen
      have c1 := (p1.other (B' := k) (by omega) (.slice none 0 0)).cell
      have f1 := (p1.other (B' := k) (by omega) (.slice none 0 0)).frozen
      clear p0 p1 p2 p3 r2 B2 hx
      gi_wp2
      exact ⟨HK.out.trans (((KeepsOthers.setCell _ _ _).trans (KeepsOthers.setCell _ _ _)).from _), HX.out⟩
    | some n =>
      rw [numR_some hx]
      have c2 := p2.cell
      have hxl := x.2
      gi_wp2_with (gi_at_builtin; refine wpListIn_append_own _ rfl _ _ 35 rfl (k + 6) 3 i0 (.int .i64 0) 1 8 Tryz.underlying35 hi hz0 hz1 hz2 rfl (by decide) _ _ _ rfl (World.ownsRow.alloc r2 _) ⟨W2.heap.size, 0, none⟩ 1 1 [.int .i64 n] rfl rfl (cell_one_new _ _ _) (by simp [Value.oneCell']) (by unfold maxLen; omega) (by omega) (by simp; omega) ?_; intro v' w1 hown' hgrow _; obtain ⟨g', cap', rfl⟩ := ownsRow_succ hown'; obtain ⟨hv1, hI1⟩ := nums_go hns hx p2 r2 p0 p1 p3 B2 z2 hown' hgrow; have hc1 := hv1.cell; have hf1 := hv1.frozen)
      exact ⟨HK.out.trans (hI1.2.1.from _), HBX.out.trans hI1.2.2, hI1.1⟩
  case done =>
    intro D xs W hD hS hI hK
    obtain ⟨hns, ⟨v, hv, hrow, _⟩, q0, q1, q3, hB, hsz⟩ := hI
    obtain ⟨va, vm, vc, rfl⟩ := row_slice hrow
    have c2 := hv.cell
    have c0 := q0.cell
    have f0 := q0.frozen
    have c1 := (q1.other (B' := k) (by omega) (.slice va vm vc)).cell
    have f1 := (q1.other (B' := k) (by omega) (.slice va vm vc)).frozen
    have HI := Lib.hid (⟨hns, hv, hrow, q0, q1, hB⟩ : numsV (partL xs) = some (nsOf xs) ∧ Boxed W (k + 2) 35 (.slice va vm vc) ∧ W.ownsRow (k + 6) 3 1 (.slice va vm vc) (nsOf xs).length ((nsOf xs).map (Value.int .i64)) ∧ Boxed W k 35 (.slice none 0 0) ∧ Boxed W (k + 1) 45 .nilIface ∧ Below k w W)
    have HK : Hid (((W.setCell ⟨k, 0, none⟩ (.slice va vm vc)).setCell ⟨k + 1, 0, none⟩ .nilIface).heap[D]? = some (.deferred (some []))) := (KeepsOthers.setCell _ _ _).same _ _ ((KeepsOthers.setCell _ _ _).same _ _ hK rfl) rfl
    have HR : Hid (((W.setCell ⟨k, 0, none⟩ (.slice va vm vc)).setCell ⟨k + 1, 0, none⟩ .nilIface).cell? ⟨k, 0, none⟩ = some (.slice va vm vc) ∧ ((W.setCell ⟨k, 0, none⟩ (.slice va vm vc)).setCell ⟨k + 1, 0, none⟩ .nilIface).cell? ⟨k + 1, 0, none⟩ = some .nilIface) :=
      ⟨((q0.set (.slice va vm vc)).other (by omega) _).cell, ((q1.other (by omega) (.slice va vm vc)).set .nilIface).cell⟩
    clear hns hv hrow q0 q1 q3 hB hK
    gi_wp2
    refine ⟨by simp, .inl ⟨_, _, rfl, run_takeDeferred HK.out, ?_⟩⟩
    obtain ⟨hns, hv, hrow, q0, q1, hB⟩ := HI.out
    have hb2 := (hB.setCell (p := ⟨k, 0, none⟩) (Nat.le_refl _) (.slice va vm vc)).setCell (p := ⟨k + 1, 0, none⟩) (by simp) .nilIface
    refine ⟨_, results53 rfl rfl (putDef_cell HK.out HR.out.1) (putDef_cell HK.out HR.out.2), _, _, rfl, .inl ⟨nsOf xs, by rw [← hS]; exact hns, rfl, ?_⟩, ?_⟩
    · rw [hk]
      exact Own.base (ownsRow_putObj (row_set (row_set hrow (by omega) _) (by omega) _) _ HK.out rfl) (by omega)
    · rw [hk]
      exact hb2.trans (belowK_b (w := w) (by omega) _ D _ _ (by omega) HK.out rfl rfl)
  case stop =>
    intro D pre W hD hS hX hK
    have HX := Lib.hid hX
    have HK := Lib.hid hK
    clear hX hK
    gi_wp2
    obtain ⟨hno, q0, ⟨t, q1⟩, hB⟩ := HX.out
    obtain ⟨rest, hrest⟩ := hS
    refine ⟨by simp, .inl ⟨_, _, rfl, run_takeDeferred HK.out, ?_⟩⟩
    refine ⟨_, results53 rfl rfl (putDef_cell HK.out q0.cell) (putDef_cell HK.out q1.cell), _, _, rfl, .inr ⟨by rw [← hrest]; exact hno rest, _, rfl⟩, ?_⟩
    rw [hk]
    exact hB.trans (belowK_b (w := w) (by omega) _ D _ _ (by omega) HK.out rfl rfl)
end Go.Proofs.YtpenbkfchgeafaaGreatDoor

namespace Go.Proofs.YtpenbkfchgeafaaGreatDoor
open Go.RowKit Go.Lib

theorem split_impl (s : ByteArray) (w : World) (hs : s.size ≤ 1048575) (hL : LaidW w) :
    Calls Tryz.prog 51 #[.string s, .string ⟨#[32]⟩] w fun e w' => ∃ (q : ByteArray) (ps : List ByteArray), (q :: ps).map (·.data.toList) = pieces 32 s.data.toList ∧ e = .returned (.slice (some ⟨w.heap.size, 0, none⟩) (ps.length + 1) (ps.length + 1)) ∧
      w' = w.alloc (.cells ((q :: ps).map Value.string).toArray 9) := by
  obtain ⟨m, hm⟩ := hL.capCell
  refine (Tryz.strings_Split s ⟨#[32]⟩ m w (by omega) hm (by decide)).mono fun e w' h => ?_
  have hd := splitB_data ⟨#[32]⟩ 0 (countB s ⟨#[32]⟩) s
  have hl := splitB_all ⟨#[32]⟩ (by decide) 0 _ s rfl
  have hk : splitK [32] 0 (countB s ⟨#[32]⟩) s.data.toList = pieces 32 s.data.toList := splitK_pieces 32 _ _ (by
    show _ ≤ Lib.count s.data.toList [32]
    rw [count_one]
    exact Nat.le_refl _)
  obtain ⟨rfl, rfl⟩ := h
  cases hps : splitB ⟨#[32]⟩ 0 (countB s ⟨#[32]⟩) s with
  | nil => rw [hps] at hl; simp at hl
  | cons q ps =>
    rw [hps] at hd hl
    have e1 : countB s ⟨#[32]⟩ = ps.length := by simpa using hl.symm
    exact ⟨q, ps, hd.trans hk, by rw [e1], rfl⟩

/-- What a line asks: nothing that a desk knows; wrong numbers; a word, an amount and numbers. -/
inductive Ask where
  | other
  | wrong
  | ask (w : List UInt8) (x : Int) (ns : List Int)
def askN (w : List UInt8) (a : Option Int) (ns : Option (List Int)) : Ask := match ns with
  | none => .wrong
  | some ns => match a with
    | none => .wrong
    | some x => .ask w x ns
def askP : List (List UInt8) → Ask
  | [w, b] => if w = tBill then askN w (some 0) (numsV (pieces 44 b)) else .other
  | [w, a, b] => if isTwo w = true then askN w (numV a) (numsV (pieces 44 b)) else .other
  | _ => .other
def askV (l : List UInt8) : Ask := askP (pieces 32 l)
def askT : Ask → List UInt8
  | .other => tWhat
  | .wrong => tWrong
  | .ask w x ns => orWrong (saidV w x ns)
theorem prog_ask (l : List UInt8) : progV l = askT (askV l) := by
  unfold progV askV
  rcases pieces 32 l with _ | ⟨w, _ | ⟨b, _ | ⟨c, _ | ⟨d, r⟩⟩⟩⟩
  · rfl
  · rfl
  · show (if w = tBill then _ else _) = askT (if w = tBill then _ else _)
    by_cases h : w = tBill
    · rw [if_pos h, if_pos h]
      cases numsV (pieces 44 b) <;> rfl
    · rw [if_neg h, if_neg h]
      rfl
  · show (if isTwo w = true then _ else _) = askT (if isTwo w = true then _ else _)
    by_cases h : isTwo w = true
    · rw [if_pos h, if_pos h]
      cases numsV (pieces 44 c) with
      | none => rfl
      | some ns => cases numV b <;> rfl
    · rw [if_neg h, if_neg h]
      rfl
  · rfl

/-- The error that a question bears, and the question. -/
def asked (l : List UInt8) (w' : World) (B : Nat) (qv er : Value) : Prop := match askV l with
  | .other => (∃ p, er = .iface 166 (.pointer p)) ∧ ∃ a b c, qv = .agg #[.string a, .int .i64 b, .slice none 0 c]
  | .wrong => (∃ t, er = .iface 55 (.string t)) ∧ ∃ a b x y z, qv = .agg #[.string a, .int .i64 b, .slice x y z]
  | .ask w x ns => er = .nilIface ∧ ∃ q v, qv = .agg #[.string q, .int .i64 x, v] ∧ q.data.toList = w ∧ Own w' B v ns

theorem desk_two (w : List UInt8) : deskFrom w 2 0 = isTwo w := by
  simp only [deskFrom, deskE, List.drop_zero, List.any_cons, List.any_nil, isTwo, decide_true, Bool.and_true, Bool.or_false, show decide ((2 : Int) = 1) = false from rfl, Bool.and_false]
  by_cases h1 : w = tRest <;> by_cases h2 : w = tSums <;> by_cases h3 : w = tWays <;> by_cases h4 : w = tCoins <;> simp [h1, h2, h3, h4]
theorem desk_one (w : List UInt8) : deskFrom w 1 0 = decide (w = tBill) := by
  simp only [deskFrom, deskE, List.drop_zero, List.any_cons, List.any_nil, decide_true, Bool.and_true, Bool.or_false, show decide ((1 : Int) = 2) = false from rfl, Bool.and_false, Bool.false_or]
theorem desk_else (w : List UInt8) {n : Int} (h1 : n ≠ 1) (h2 : n ≠ 2) : deskFrom w n 0 = false := by
  simp [deskFrom, deskE, h1, h2]

/-- A word that is none of a desk's. -/
theorem ask_other {l w : List UInt8} {ps : List (List UInt8)} (hp : w :: ps = pieces 32 l) (h : deskFrom w (ps.length : Int) 0 = false) : askV l = .other := by
  unfold askV
  rw [← hp]
  rcases ps with _ | ⟨b, _ | ⟨c, _ | ⟨d, r⟩⟩⟩
  · rfl
  · have h' := (desk_one w).symm.trans h
    exact if_neg (of_decide_eq_false h')
  · have h' := (desk_two w).symm.trans h
    show (if isTwo w = true then _ else _) = _
    rw [h']
    rfl
  · rfl
theorem ask_desk {w : List UInt8} {ps : List (List UInt8)} (h : deskFrom w (ps.length : Int) 0 = true) : (∃ b, ps = [b] ∧ w = tBill) ∨ ∃ a b, ps = [a, b] ∧ isTwo w = true := by
  rcases ps with _ | ⟨b, _ | ⟨c, _ | ⟨d, r⟩⟩⟩
  · rw [desk_else _ (by simp) (by simp)] at h; cases h
  · exact .inl ⟨b, rfl, of_decide_eq_true ((desk_one w).symm.trans h)⟩
  · exact .inr ⟨b, c, rfl, (desk_two w).symm.trans h⟩
  · rw [desk_else _ (by simp; omega) (by simp; omega)] at h; cases h

/-- The three cells of a question. -/
def QCells (W : World) (b : Nat) (x y z : Value) : Prop := (W.cell? ⟨b, 0, none⟩ = some x ∧ W.cell? ⟨b, 1, none⟩ = some y ∧ W.cell? ⟨b, 2, none⟩ = some z) ∧ W.frozen? ⟨b, 0, none⟩ = false ∧ W.frozen? ⟨b, 1, none⟩ = false ∧ W.frozen? ⟨b, 2, none⟩ = false
theorem QCells.of {W : World} {b : Nat} {x y z : Value} (h : W.heap[b]? = some (.cells #[x, y, z] 72 (0, 0))) : QCells W b x y z :=
  ⟨⟨by rw [cell_of_row _ _ 0 _ _ _ h]; rfl, by rw [cell_of_row _ _ 1 _ _ _ h]; rfl, by rw [cell_of_row _ _ 2 _ _ _ h]; rfl⟩, frozen_of_row _ _ 0 _ _ h, frozen_of_row _ _ 1 _ _ h, frozen_of_row _ _ 2 _ _ h⟩
theorem QCells.below {W W' : World} {b n : Nat} {x y z : Value} (h : QCells W b x y z) (hb : Below n W W') (hn : b < n) : QCells W' b x y z :=
  ⟨⟨(hb.cell (p := ⟨b, 0, none⟩) hn).trans h.1.1, (hb.cell (p := ⟨b, 1, none⟩) hn).trans h.1.2.1, (hb.cell (p := ⟨b, 2, none⟩) hn).trans h.1.2.2⟩,
    (hb.frozen (p := ⟨b, 0, none⟩) hn).trans h.2.1, (hb.frozen (p := ⟨b, 1, none⟩) hn).trans h.2.2.1, (hb.frozen (p := ⟨b, 2, none⟩) hn).trans h.2.2.2⟩
theorem cell_step {W : World} {a p : Addr} {v u : Value} (h : W.cell? a = some v) : (W.setCell p u).cell? a = some (if a = p then u else v) := by
  by_cases e : a = p
  · subst e
    rw [if_pos rfl]
    exact World.cell?_setCell_same' W a u (by rw [h]; rfl)
  · rw [if_neg e]
    rw [World.cell?_setCell_other W p a u (fun h => e h.symm)]
    exact h
theorem QCells.set0 {W : World} {b : Nat} {x y z : Value} (h : QCells W b x y z) (u : Value) : QCells (W.setCell ⟨b, 0, none⟩ u) b u y z := by
  have a0 := cell_step (p := ⟨b, 0, none⟩) (u := u) h.1.1
  have a1 := cell_step (p := ⟨b, 0, none⟩) (u := u) h.1.2.1
  have a2 := cell_step (p := ⟨b, 0, none⟩) (u := u) h.1.2.2
  rw [if_pos rfl] at a0
  rw [if_neg (by simp)] at a1 a2
  exact ⟨⟨a0, a1, a2⟩, by rw [World.frozen?_setCell]; exact h.2.1, by rw [World.frozen?_setCell]; exact h.2.2.1, by rw [World.frozen?_setCell]; exact h.2.2.2⟩
theorem QCells.set1 {W : World} {b : Nat} {x y z : Value} (h : QCells W b x y z) (u : Value) : QCells (W.setCell ⟨b, 1, none⟩ u) b x u z := by
  have a0 := cell_step (p := ⟨b, 1, none⟩) (u := u) h.1.1
  have a1 := cell_step (p := ⟨b, 1, none⟩) (u := u) h.1.2.1
  have a2 := cell_step (p := ⟨b, 1, none⟩) (u := u) h.1.2.2
  rw [if_pos rfl] at a1
  rw [if_neg (by simp)] at a0 a2
  exact ⟨⟨a0, a1, a2⟩, by rw [World.frozen?_setCell]; exact h.2.1, by rw [World.frozen?_setCell]; exact h.2.2.1, by rw [World.frozen?_setCell]; exact h.2.2.2⟩
theorem QCells.set2 {W : World} {b : Nat} {x y z : Value} (h : QCells W b x y z) (u : Value) : QCells (W.setCell ⟨b, 2, none⟩ u) b x y u := by
  have a0 := cell_step (p := ⟨b, 2, none⟩) (u := u) h.1.1
  have a1 := cell_step (p := ⟨b, 2, none⟩) (u := u) h.1.2.1
  have a2 := cell_step (p := ⟨b, 2, none⟩) (u := u) h.1.2.2
  rw [if_pos rfl] at a2
  rw [if_neg (by simp)] at a0 a1
  exact ⟨⟨a0, a1, a2⟩, by rw [World.frozen?_setCell]; exact h.2.1, by rw [World.frozen?_setCell]; exact h.2.2.1, by rw [World.frozen?_setCell]; exact h.2.2.2⟩
theorem QCells.set {W : World} {b : Nat} {x y z : Value} (h : QCells W b x y z) (x' y' z' : Value) : QCells (((W.setCell ⟨b, 0, none⟩ x').setCell ⟨b, 1, none⟩ y').setCell ⟨b, 2, none⟩ z') b x' y' z' :=
  ((h.set0 x').set1 y').set2 z'
theorem below_set3 {W : World} {B b : Nat} (h : B ≤ b) (x y z : Value) : Below B W (((W.setCell ⟨b, 0, none⟩ x).setCell ⟨b, 1, none⟩ y).setCell ⟨b, 2, none⟩ z) :=
  (((Below.refl B W).setCell (p := ⟨b, 0, none⟩) h _).setCell (p := ⟨b, 1, none⟩) h _).setCell (p := ⟨b, 2, none⟩) h _
theorem own_setAt {W : World} {B : Nat} {v : Value} {xs : List Int} (h : Own W B v xs) (p : Addr) (hp : p.block < B) (u : Value) : Own (W.setCell p u) B v xs := by
  have hg : W.grownBy (W.setCell p u) (some p.block) := ⟨rfl, rfl, rfl, (KeepsWalks.setCell W p u).size, fun k _ hk => Below.heap_setCell _ _ _ k (fun e => hk (by rw [e]))⟩
  refine h.kept hg ?_
  cases hv : v.ownBlock with
  | none => exact .inl rfl
  | some g =>
    have := (h.lt g hv).1
    exact .inr fun e => by
      obtain rfl : g = p.block := by simpa using e
      omega
theorem own_setOff {W : World} {B : Nat} {v : Value} {xs : List Int} (h : Own W B v xs) (p : Addr) (hp : ∀ g, v.ownBlock = some g → g ≠ p.block) (u : Value) : Own (W.setCell p u) B v xs := by
  have hg : W.grownBy (W.setCell p u) (some p.block) := ⟨rfl, rfl, rfl, (KeepsWalks.setCell W p u).size, fun k _ hk => Below.heap_setCell _ _ _ k (fun e => hk (by rw [e]))⟩
  refine h.kept hg ?_
  cases hv : v.ownBlock with
  | none => exact .inl rfl
  | some g => exact .inr fun e => hp g hv (by simpa using e)
theorem own_set3 {W : World} {B b : Nat} {v : Value} {xs : List Int} (h : Own W B v xs) (hb : b < B) (x y z : Value) : Own (((W.setCell ⟨b, 0, none⟩ x).setCell ⟨b, 1, none⟩ y).setCell ⟨b, 2, none⟩ z) B v xs :=
  own_setAt (own_setAt (own_setAt h _ hb _) _ hb _) _ hb _

theorem results41 {W : World} {k : Nat} {x y z er : Value} {tmps : Array Value} (h2 : tmps[2]?.getD undef = .pointer (some ⟨k, 0, none⟩)) (h3 : tmps[3]?.getD undef = er) (hc : QCells W k x y z) :
    (results Tryz.f41 tmps).run Tryz.prog W = .ok (.tuple #[.agg #[x, y, z], er]) W := by
  have l0 : (loadVar 72 ⟨k, 0, none⟩).run Tryz.prog W = .ok (.agg #[x, y, z]) W := by
    have c0 := hc.1.1
    have c1 := hc.1.2.1
    have c2 := hc.1.2.2
    simp [loadVar, isAgg, underlying, Tryz.underlying72, c0, c1, c2, Result.andThen, go_sem]
  simp [results, h2, h3, asAddr, l0, Result.andThen]
set_option maxRecDepth 100000 in
set_option maxHeartbeats 3200000 in
theorem questionOf_impl (s : ByteArray) (w : World) (hs : s.size ≤ 1048575) (hL : LaidW w) :
    Calls Tryz.prog 41 #[.string s] w fun e w' => ∃ qv er, e = .returned (.tuple #[qv, er]) ∧ asked s.data.toList w' w.heap.size qv er ∧ Below w.heap.size w w' := by
  have HLW := Lib.hid hL
  have HS := Lib.hid (split_impl s (w.alloc (.cells #[.string ByteArray.empty, .int .i64 0, .slice none 0 0] 72)) hs (hL.below ((Below.refl _ _).alloc (Nat.le_refl _) _)))
  clear hL
  go_enter Tryz.func41, Tryz.ntmps41
  go_wp2_with fail
  refine HS.out.mono ?_
  rintro e w1 ⟨q, ps, hps, rfl, rfl⟩
  have hB := (((Below.refl w.heap.size w).alloc (Nat.le_refl _) (.cells #[.string ByteArray.empty, .int .i64 0, .slice none 0 0] 72)).alloc (by simp) (.cells ((q :: ps).map Value.string).toArray 9))
  have hq : QCells ((w.alloc (.cells #[.string ByteArray.empty, .int .i64 0, .slice none 0 0] 72)).alloc (.cells ((q :: ps).map Value.string).toArray 9)) w.heap.size (.string ByteArray.empty) (.int .i64 0) (.slice none 0 0) :=
    QCells.of ((Below.heap_alloc _ _ _ (by simp)).trans (World.alloc_heap_new w _))
  have hr : ((w.alloc (.cells #[.string ByteArray.empty, .int .i64 0, .slice none 0 0] 72)).alloc (.cells ((q :: ps).map Value.string).toArray 9)).heap[w.heap.size + 1]? = some (.cells ((q :: ps).map Value.string).toArray 9 (0, 0)) := by
    have := World.alloc_heap_new (w.alloc (.cells #[.string ByteArray.empty, .int .i64 0, .slice none 0 0] 72)) (.cells ((q :: ps).map Value.string).toArray 9)
    rwa [World.size_alloc] at this
  generalize (w.alloc (.cells #[.string ByteArray.empty, .int .i64 0, .slice none 0 0] 72)).alloc (.cells ((q :: ps).map Value.string).toArray 9) = W1 at *
  simp only [World.size_alloc]
  have c0 : W1.cell? ⟨w.heap.size + 1, 0, none⟩ = some (.string q) := by rw [cell_of_row _ _ 0 _ _ _ hr]; rfl
  have HQ := Lib.hid hq
  have HR := Lib.hid hr
  have HB := Lib.hid hB
  have HP := Lib.hid hps
  clear hq hr hB hps
  go_wp2_with fail
  go_region
  have hz1 : w.heap.size + 2 ≤ W1.heap.size := by
    have := (Array.getElem?_eq_some_iff.1 HR.out).1
    omega
  have hB1 : Below w.heap.size w W1.drew := HB.out.drew
  have HQ1 : Hid (QCells W1.drew w.heap.size (.string ByteArray.empty) (.int .i64 0) (.slice none 0 0)) := HQ.out
  have HR1 : Hid (W1.drew.heap[w.heap.size + 1]? = some (.cells ((q :: ps).map Value.string).toArray 9 (0, 0))) := HR.out
  have HD := Lib.hid (isDeskWord_impl q (ps.length : Nat) W1.drew (HLW.out.below hB1))
  have HB1 := Lib.hid hB1
  have hz2 : w.heap.size + 2 ≤ W1.drew.heap.size := hz1
  clear HQ HR HB hB1 c0 hz1
  generalize W1.drew = W2 at *
  have hpa : ∀ b r, ps = b :: r → (if ps = [] then some (⟨w.heap.size + 1, 0, none⟩ : Addr) else some ⟨w.heap.size + 1, 1, none⟩) = some ⟨w.heap.size + 1, 1, none⟩ := fun b r e => by rw [e]; rfl
  have HPA := Lib.hid hpa
  clear hpa
  generalize (if ps = [] then some (⟨w.heap.size + 1, 0, none⟩ : Addr) else some ⟨w.heap.size + 1, 1, none⟩) = pa at *
  go_wp2_with fail
  refine HD.out.mono ?_
  rintro e W3 ⟨rfl, b3⟩
  have HL3 := Lib.hid (HLW.out.below (HB1.out.trans (b3.mono HB1.out.size)))
  have HQ3 := Lib.hid (HQ1.out.below b3 (by omega))
  have HB3 := Lib.hid (HB1.out.trans (b3.mono HB1.out.size))
  have hz3 : w.heap.size + 2 ≤ W3.heap.size := Nat.le_trans hz2 b3.size
  cases hd : deskFrom q.data.toList (ps.length : Nat) 0 with
  | false =>
    have hl : ((ps.map (·.data.toList)).length : Int) = (ps.length : Nat) := by rw [List.length_map]
    have HO := Lib.hid (ask_other (l := s.data.toList) HP.out (by rw [hl]; exact hd))
    obtain ⟨p, c1⟩ := HL3.out.otherCell
    have n1 : ¬ 1 = w.heap.size := by
      obtain ⟨p, c⟩ := HLW.out.otherCell
      exact Nat.ne_of_lt (World.block_lt_of_cell? w _ c)
    have n2 : ¬ w.heap.size = 1 := fun e => n1 e.symm
    have c20 := HQ3.out.1.1
    have c21 := HQ3.out.1.2.1
    have c22 := HQ3.out.1.2.2
    have f20 := HQ3.out.2.1
    have f21 := HQ3.out.2.2.1
    have f22 := HQ3.out.2.2.2
    clear hd b3
    go_wp2
    go_region
    go_wp2
    have hqs := HQ3.out.set (.string ByteArray.empty) (.int .i64 0) (.slice none 0 0)
    refine bodyPost_ret (results41 rfl rfl (show QCells ((((W3.setCell ⟨w.heap.size, 0, none⟩ (.string ByteArray.empty)).setCell ⟨w.heap.size, 1, none⟩ (.int .i64 0)).setCell ⟨w.heap.size, 2, none⟩ (.slice none 0 0)).drew) w.heap.size _ _ _ from hqs)) rfl ?_
    refine ⟨_, _, rfl, ?_, (HB3.out.trans (below_set3 (Nat.le_refl _) _ _ _)).drew⟩
    unfold asked
    rw [HO.out]
    exact ⟨⟨p, rfl⟩, _, _, _, rfl⟩
  | true =>
    have hl : ((ps.map (·.data.toList)).length : Int) = (ps.length : Nat) := by rw [List.length_map]
    have hk := ask_desk (w := q.data.toList) (ps := ps.map (·.data.toList)) (by rw [hl]; exact hd)
    have hsz : ∀ b ∈ ps, b.size ≤ 1048575 := fun b hb => by
      have := (pieces_len 32 s.data.toList).2 b.data.toList (by rw [← HP.out]; exact List.mem_map_of_mem (List.mem_cons_of_mem _ hb))
      have e1 : b.data.toList.length = b.size := by simp
      have e2 : s.data.toList.length = s.size := by simp
      omega
    have hrow3 : W3.heap[w.heap.size + 1]? = some (.cells ((q :: ps).map Value.string).toArray 9 (0, 0)) := (b3.block _ (by omega)).trans HR1.out
    rcases hk with ⟨lb, e1, hw⟩ | ⟨la, lb, e1, hw⟩
    · obtain ⟨b, rfl, rfl⟩ : ∃ b, ps = [b] ∧ b.data.toList = lb := by
        rcases ps with _ | ⟨b, _ | ⟨c, r⟩⟩
        · simp at e1
        · exact ⟨b, rfl, by simpa using e1⟩
        · simp at e1
      have HA : Hid (askV s.data.toList = askN tBill (some 0) (numsV (pieces 44 b.data.toList))) := by
        show _ = _
        unfold askV
        rw [← HP.out]
        show (if q.data.toList = tBill then askN q.data.toList _ _ else _) = _
        rw [if_pos hw, hw]
      have c1 : W3.cell? ⟨w.heap.size + 1, 1, none⟩ = some (.string b) := by rw [cell_of_row _ _ 1 _ _ _ hrow3]; rfl
      obtain rfl := HPA.out b [] rfl
      have HN := Lib.hid (numbersOf_impl b W3 (hsz b (by simp)) HL3.out)
      clear hd b3 hrow3 hsz e1 hl
      go_wp2_with fail
      refine HN.out.mono ?_
      rintro e W4 ⟨v, er, rfl, hc, b4⟩
      have HQ4 := Lib.hid (HQ3.out.below b4 (by omega))
      have HB4 := Lib.hid (HB3.out.trans (b4.mono HB3.out.size))
      have hz4 : w.heap.size + 2 ≤ W4.heap.size := Nat.le_trans hz3 b4.size
      have d0 := HQ4.out.1.1
      have d1 := HQ4.out.1.2.1
      have d2 := HQ4.out.1.2.2
      have f0 := HQ4.out.2.1
      have f1 := HQ4.out.2.2.1
      have f2 := HQ4.out.2.2.2
      clear b4 c1
      rcases hc with ⟨ns, hns, rfl, ho⟩ | ⟨hns, t, rfl⟩
      · rw [hns] at HA
        obtain ⟨va, vm, vc, rfl⟩ := row_slice (show W4.ownsRow W3.heap.size 3 1 v ns.length (ns.map (Value.int .i64)) from ho)
        have HO := Lib.hid ho
        have b5 := (Below.refl W4.heap.size W4).alloc (Nat.le_refl _) (.cells #[.string q, .int .i64 0, .slice va vm vc] 72)
        have q5 := HQ4.out.below b5 (by omega)
        have HQ5 := Lib.hid q5
        have HO5 := Lib.hid (ho.below b5)
        have HB5 := Lib.hid (HB4.out.trans (b5.mono (by omega)))
        have x0 := q5.1.1
        have x1 := q5.1.2.1
        have x2 := q5.1.2.2
        have y0 := q5.2.1
        have y1 := q5.2.2.1
        have y2 := q5.2.2.2
        clear hns ho d0 d1 d2 f0 f1 f2 b5 q5
        go_wp2
        refine bodyPost_ret (results41 rfl rfl (HQ5.out.set _ _ _)) rfl ?_
        refine ⟨_, _, rfl, ?_, HB5.out.trans (below_set3 (Nat.le_refl _) _ _ _)⟩
        unfold asked
        rw [HA.out]
        exact ⟨rfl, q, _, rfl, hw, (own_set3 HO5.out (by omega) _ _ _).base (by omega)⟩
      · rw [hns] at HA
        clear hns
        go_wp2
        refine bodyPost_ret (results41 rfl rfl (HQ4.out.set _ _ _)) rfl ?_
        refine ⟨_, _, rfl, ?_, HB4.out.trans (below_set3 (Nat.le_refl _) _ _ _)⟩
        unfold asked
        rw [HA.out]
        exact ⟨⟨t, rfl⟩, _, _, _, _, _, rfl⟩
    · obtain ⟨a, b, rfl, rfl, rfl⟩ : ∃ a b, ps = [a, b] ∧ a.data.toList = la ∧ b.data.toList = lb := by
        rcases ps with _ | ⟨a, _ | ⟨b, _ | ⟨c, r⟩⟩⟩
        · simp at e1
        · simp at e1
        · simp only [List.map_cons, List.map_nil, List.cons.injEq, and_true] at e1
          exact ⟨a, b, rfl, e1.1, e1.2⟩
        · simp at e1
      have HA : Hid (askV s.data.toList = askN q.data.toList (numV a.data.toList) (numsV (pieces 44 b.data.toList))) := by
        show _ = _
        unfold askV
        rw [← HP.out]
        show (if isTwo q.data.toList = true then _ else _) = _
        rw [if_pos hw]
      have c1 : W3.cell? ⟨w.heap.size + 1, 1, none⟩ = some (.string a) := by rw [cell_of_row _ _ 1 _ _ _ hrow3]; rfl
      have c2 : W3.cell? ⟨w.heap.size + 1, 2, none⟩ = some (.string b) := by rw [cell_of_row _ _ 2 _ _ _ hrow3]; rfl
      obtain rfl := HPA.out a [b] rfl
      have HN := Lib.hid (numbersOf_impl b W3 (hsz b (by simp)) HL3.out)
      have HSA := Lib.hid (hsz a (by simp))
      have HR3 := Lib.hid hrow3
      clear hd b3 hrow3 hsz e1 hl
      go_wp2_with fail
      refine HN.out.mono ?_
      rintro e W4 ⟨v, er, rfl, hc, b4⟩
      have HQ4 := Lib.hid (HQ3.out.below b4 (by omega))
      have HB4 := Lib.hid (HB3.out.trans (b4.mono HB3.out.size))
      have HL4 := Lib.hid (HL3.out.below b4)
      have HR4 : Hid (W4.heap[w.heap.size + 1]? = some (.cells ([q, a, b].map Value.string).toArray 9 (0, 0))) := (b4.block _ (by omega)).trans HR3.out
      have hz4 : w.heap.size + 2 ≤ W4.heap.size := Nat.le_trans hz3 b4.size
      have d0 := HQ4.out.1.1
      have d1 := HQ4.out.1.2.1
      have d2 := HQ4.out.1.2.2
      have f0 := HQ4.out.2.1
      have f1 := HQ4.out.2.2.1
      have f2 := HQ4.out.2.2.2
      clear b4 c1 c2
      rcases hc with ⟨ns, hns, rfl, ho⟩ | ⟨hns, t, rfl⟩
      · rw [hns] at HA
        obtain ⟨va, vm, vc, rfl⟩ := row_slice (show W4.ownsRow W3.heap.size 3 1 v ns.length (ns.map (Value.int .i64)) from ho)
        have b5 := (Below.refl W4.heap.size W4).alloc (Nat.le_refl _) (.cells #[.string q, .int .i64 0, .slice va vm vc] 72)
        have q5 := HQ4.out.below b5 (by omega)
        have g5 : QCells (W4.alloc (.cells #[.string q, .int .i64 0, .slice va vm vc] 72)) W4.heap.size (.string q) (.int .i64 0) (.slice va vm vc) := QCells.of (World.alloc_heap_new W4 _)
        have HQ5 := Lib.hid q5
        have HG5 := Lib.hid g5
        have HO5 := Lib.hid (ho.below b5)
        have HOF : Hid (∀ g, (Value.slice va vm vc).ownBlock = some g → g ≠ W4.heap.size) := fun g hg => Nat.ne_of_lt (ho.lt g hg).2
        have HB5 := Lib.hid (HB4.out.trans (b5.mono (by omega)))
        have hz5 : (W4.alloc (.cells #[.string q, .int .i64 0, .slice va vm vc] 72)).heap.size = W4.heap.size + 1 := by simp
        have HN5 := Lib.hid (numberOf_impl a (W4.alloc (.cells #[.string q, .int .i64 0, .slice va vm vc] 72)) (by have := HSA.out; omega) (HL4.out.below b5))
        have k1 : (W4.alloc (.cells #[.string q, .int .i64 0, .slice va vm vc] 72)).cell? ⟨w.heap.size + 1, 1, none⟩ = some (.string a) := by
          rw [cell_of_row _ _ 1 _ _ _ ((b5.block _ (by omega)).trans HR4.out)]; rfl
        clear hns ho d0 d1 d2 f0 f1 f2 b5 q5 g5
        go_wp2_with fail
        refine HN5.out.mono ?_
        rintro e W6 ⟨rfl, b6⟩
        have HQ6 := Lib.hid (HQ5.out.below b6 (by omega))
        have HG6 := Lib.hid (HG5.out.below b6 (by omega))
        have HO6 := Lib.hid (HO5.out.below b6)
        have HB6 := Lib.hid (HB5.out.trans (b6.mono (by omega)))
        clear b6 k1
        cases hx : numV a.data.toList with
        | some x =>
          rw [hx] at HA
          rw [numR_some hx]
          have e1 := HG6.out.1.2.1
          have e1f := HG6.out.2.2.1
          have g7 := HG6.out.set1 (.int .i64 x)
          have q7 : QCells (W6.setCell ⟨W4.heap.size, 1, none⟩ (.int .i64 x)) w.heap.size _ _ _ := HQ6.out.below ((Below.refl (w.heap.size + 1) W6).setCell (p := ⟨W4.heap.size, 1, none⟩) (by simp; omega) _) (by omega)
          have HQ7 := Lib.hid q7
          have u0 := g7.1.1
          have u1 := g7.1.2.1
          have u2 := g7.1.2.2
          have x0 := q7.1.1
          have x1 := q7.1.2.1
          have x2 := q7.1.2.2
          have y0 := q7.2.1
          have y1 := q7.2.2.1
          have y2 := q7.2.2.2
          clear hx q7 g7
          go_wp2
          refine bodyPost_ret (results41 rfl rfl (HQ7.out.set _ _ _)) rfl ?_
          refine ⟨_, _, rfl, ?_, (HB6.out.setCell (p := ⟨W4.heap.size, 1, none⟩) (by simp; omega) _).trans (below_set3 (Nat.le_refl _) _ _ _)⟩
          unfold asked
          rw [HA.out]
          exact ⟨rfl, q, _, rfl, rfl, (own_set3 (own_setOff HO6.out _ HOF.out _) (by omega) _ _ _).base (by omega)⟩
        | none =>
          rw [hx] at HA
          rw [numR_none hx]
          have e1 := HG6.out.1.2.1
          have e1f := HG6.out.2.2.1
          have g7 := HG6.out.set1 (.int .i64 0)
          have q7 : QCells (W6.setCell ⟨W4.heap.size, 1, none⟩ (.int .i64 0)) w.heap.size _ _ _ := HQ6.out.below ((Below.refl (w.heap.size + 1) W6).setCell (p := ⟨W4.heap.size, 1, none⟩) (by simp; omega) _) (by omega)
          have HQ7 := Lib.hid q7
          have u0 := g7.1.1
          have u1 := g7.1.2.1
          have u2 := g7.1.2.2
          have x0 := q7.1.1
          have x1 := q7.1.2.1
          have x2 := q7.1.2.2
          have y0 := q7.2.1
          have y1 := q7.2.2.1
          have y2 := q7.2.2.2
          clear hx q7 g7
          go_wp2
          refine bodyPost_ret (results41 rfl rfl (HQ7.out.set _ _ _)) rfl ?_
          refine ⟨_, _, rfl, ?_, (HB6.out.setCell (p := ⟨W4.heap.size, 1, none⟩) (by simp; omega) _).trans (below_set3 (Nat.le_refl _) _ _ _)⟩
          unfold asked
          rw [HA.out]
          exact ⟨⟨_, rfl⟩, _, _, _, _, _, rfl⟩
      · rw [hns] at HA
        clear hns
        go_wp2
        refine bodyPost_ret (results41 rfl rfl (HQ4.out.set _ _ _)) rfl ?_
        refine ⟨_, _, rfl, ?_, HB4.out.trans (below_set3 (Nat.le_refl _) _ _ _)⟩
        unfold asked
        rw [HA.out]
        exact ⟨⟨t, rfl⟩, _, _, _, _, _, rfl⟩
end Go.Proofs.YtpenbkfchgeafaaGreatDoor
