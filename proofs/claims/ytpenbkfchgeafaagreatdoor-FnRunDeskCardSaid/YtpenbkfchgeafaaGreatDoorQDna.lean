/- A number read by the program. Numbers as a text, in the program. Whether a word is one of a desk, in the program. -/
import Derived.Test.YtpenbkfchgeafaaGreatDoorQDo
import Derived.Test.YtpenbkfchgeafaaGreatDoorShelf
import Derived.Sort.Grow
import Derived.Test.YtpenbkfchgeafaaGreatDoorQPush
import Derived.Laws.StructEq
namespace Go.Proofs.YtpenbkfchgeafaaGreatDoor
open Go.RowKit Go.Lib

/-- What the program's reader answers to a text. -/
def numR (s : ByteArray) : Value := match numV s.data.toList with
  | some n => .tuple #[.int .i64 n, .nilIface]
  | none => .tuple #[.int .i64 0, .iface 55 (.string s)]
theorem numR_ok {s : ByteArray} {n : Int} (ha : atoiAll s.data.toList = .ok n) :
    numR s = if itoa n = s.data.toList then .tuple #[.int .i64 n, .nilIface] else .tuple #[.int .i64 0, .iface 55 (.string s)] := by
  unfold numR numV
  rw [ha]
  dsimp only
  by_cases hh : itoa n = s.data.toList
  · rw [if_pos hh, if_pos hh]
  · rw [if_neg hh, if_neg hh]
theorem numR_no {s : ByteArray} (ha : ∀ n, atoiAll s.data.toList ≠ .ok n) : numR s = .tuple #[.int .i64 0, .iface 55 (.string s)] := by
  unfold numR numV
  cases hh : atoiAll s.data.toList with
  | ok m => exact absurd hh (ha m)
  | range => rfl
  | _ => rfl
theorem str_eta (s : ByteArray) : (⟨s.data.toList.toArray⟩ : ByteArray) = s := by
  cases s
  simp
theorem text_ne {a b : ByteArray} (h : a ≠ b) : (a.toList == b.toList) = false := by
  rw [ByteArray.toList_eq, ByteArray.toList_eq]
  exact beq_eq_false_iff_ne.2 fun e => h (ByteArray.ext (Array.toList_inj.1 e))
theorem below_grow (w : World) (k : Nat) (os : Array Obj) : Below w.heap.size w (Sort.grow (w.drewN k) os) :=
  ⟨rfl, rfl, rfl, by simp [Sort.grow, World.drewN], fun j hj => by simp [Sort.grow, World.drewN, Array.getElem?_append_left hj]⟩

theorem itoa_impl (n : Int) (w : World) (h0 : -9223372036854775808 ≤ n) (h1 : n ≤ 9223372036854775807) (hL : LaidW w) :
    Calls Tryz.prog 67 #[.int .i64 n] w fun e w' => e = .returned (strV (itoa n)) ∧ Below w.heap.size w w' :=
  (Tryz.strconv_Itoa n h0 h1 w hL.pow).mono fun e w' h => by
    obtain ⟨rfl, k, os, rfl⟩ := h
    exact ⟨rfl, below_grow w k os⟩

theorem atoi_impl (s : ByteArray) (w : World) (hs : s.size ≤ 1048576) (hL : LaidW w) :
    Calls Tryz.prog 66 #[.string s] w fun e w' => (∃ n er, e = .returned (.tuple #[.int .i64 n, er]) ∧ -9223372036854775808 ≤ n ∧ n ≤ 9223372036854775807 ∧
      ((er = .nilIface ∧ atoiAll s.data.toList = .ok n) ∨ ((∃ t p, er = .iface t p) ∧ ∀ n, atoiAll s.data.toList ≠ .ok n))) ∧ Below w.heap.size w w' := by
  cases h : atoiAll s.data.toList with
  | ok n =>
    refine (Tryz.strconv_Atoi_ok s (by omega) n h w).mono fun e w' x => ?_
    obtain ⟨rfl, hw⟩ := x
    refine ⟨⟨n, _, rfl, (atoiAll_bounds h).1, (atoiAll_bounds h).2, .inl ⟨rfl, rfl⟩⟩, ?_⟩
    rcases hw with rfl | ⟨t, rfl⟩
    · exact Below.refl _ _
    · exact bytesWorld_below _ _ _
  | range =>
    obtain ⟨tp, p, hv⟩ := hL.rng
    refine (Tryz.strconv_Atoi_range_var s (by omega) h tp p w hv).mono fun e w' x => ?_
    obtain ⟨N, rfl, _, _, hb⟩ := x
    exact ⟨⟨_, _, rfl, (atoiSat_bounds _).1, (atoiSat_bounds _).2, .inr ⟨⟨_, _, rfl⟩, fun n e => by cases e⟩⟩, hb⟩
  | _ =>
    obtain ⟨tp, p, hv⟩ := hL.syn
    refine (Any.strconv_Atoi_syntax_var Tryz.laysC172 s (by omega) h tp p w hv).mono fun e w' x => ?_
    obtain ⟨N, rfl, _, _, hb⟩ := x
    exact ⟨⟨0, _, rfl, by omega, by omega, .inr ⟨⟨_, _, rfl⟩, fun n e => by cases e⟩⟩, hb⟩

theorem numberOf_impl (s : ByteArray) (w : World) (hs : s.size ≤ 1048576) (hL : LaidW w) :
    Calls Tryz.prog 54 #[.string s] w fun e w' => e = .returned (numR s) ∧ Below w.heap.size w w' := by
  have HA := Lib.hid (atoi_impl s w hs hL)
  have HL := Lib.hid hL
  go_enter Tryz.func54, Tryz.ntmps54
  go_wp2_with (go_at_call 66; refine HA.out.mono ?_; rintro e w1 ⟨⟨n, er, rfl, h0, h1, hc⟩, b1⟩; refine Hid.out ?_)
  refine Lib.hid ?_
  have HI := Lib.hid (itoa_impl n w1 h0 h1 (HL.out.below b1))
  rcases hc with ⟨rfl, ha⟩ | ⟨⟨t, p, rfl⟩, ha⟩
  · have HN := Lib.hid (numR_ok ha)
    by_cases hh : itoa n = s.data.toList
    · have hq : strV (itoa n) = .string s := (congrArg strV hh).trans (congrArg Value.string (str_eta s))
      rw [if_pos hh] at HN
      rw [hq] at HI
      clear ha hh
      go_wp2_with (go_at_call 67; refine HI.out.mono ?_; rintro e w2 ⟨rfl, b2⟩)
      go_ret2
      exact ⟨congrArg Ending.returned HN.out.symm, b1.trans (b2.mono b1.size)⟩
    · have hq : (⟨(itoa n).toArray⟩ : ByteArray) ≠ s := fun e => hh (by rw [← e])
      rw [if_neg hh] at HN
      obtain ⟨x, hx⟩ : ∃ x : ByteArray, x = ⟨(itoa n).toArray⟩ := ⟨_, rfl⟩
      rw [show strV (itoa n) = .string x from congrArg Value.string hx.symm] at HI
      rw [← hx] at hq
      have hn := text_ne hq
      clear ha hh hx
      go_wp2_with (go_at_call 67; refine HI.out.mono ?_; rintro e w2 ⟨rfl, b2⟩)
      go_ret2
      exact ⟨congrArg Ending.returned HN.out.symm, b1.trans (b2.mono b1.size)⟩
  · have HN := Lib.hid (numR_no ha)
    clear ha
    go_wp2
    go_ret2
    exact ⟨congrArg Ending.returned HN.out.symm, b1⟩
end Go.Proofs.YtpenbkfchgeafaaGreatDoor

namespace Go.Proofs.YtpenbkfchgeafaaGreatDoor
open Go.RowKit Go.Lib

theorem ownS_made {w0 : World} {B g n : Nat} (h : w0.ownsRow B 9 1 (sl g n n) n (madeCells #[Value.string ByteArray.empty] n).toList) :
    OwnStr w0 B (sl g n n) (List.replicate n ByteArray.empty) := by
  rw [toList_madeCells_one] at h
  unfold OwnStr
  rw [List.length_replicate, List.map_replicate]
  exact h
theorem OwnStr.set {w : World} {B g n cap : Nat} {xs : List ByteArray} (h : OwnStr w B (sl g n cap) xs) (hn : xs.length = n) (j : Nat) (u : ByteArray) :
    OwnStr (w.setCell ⟨g, j, none⟩ (.string u)) B (sl g n cap) (xs.set j u) ∧ w.grownBy (w.setCell ⟨g, j, none⟩ (.string u)) (some g) := by
  subst hn
  have := World.ownsRow.stored h j (.string u)
  refine ⟨?_, this.2⟩
  unfold OwnStr
  rw [List.length_set, List.map_set]
  exact this.1

/-- The first k numbers as texts. -/
def textB (x : Int) : ByteArray := ⟨(itoa x).toArray⟩
def upT (xs : List Int) (k : Nat) : List ByteArray := (xs.take k).map textB ++ List.replicate (xs.length - k) ByteArray.empty
theorem upT_len (xs : List Int) {k : Nat} (h : k ≤ xs.length) : (upT xs k).length = xs.length := by
  unfold upT
  rw [List.length_append, List.length_map, List.length_take, List.length_replicate]
  omega
theorem upT_zero (xs : List Int) : upT xs 0 = List.replicate xs.length ByteArray.empty := by simp [upT]
theorem upT_all (xs : List Int) : upT xs xs.length = xs.map textB := by simp [upT]
theorem upT_set (xs : List Int) {k : Nat} (h : k < xs.length) : (upT xs k).set k (textB (xs.getD k 0)) = upT xs (k + 1) := by
  have hl : ((xs.take k).map textB).length = k := by rw [List.length_map, List.length_take]; omega
  have e : xs.length - k = (xs.length - (k + 1)) + 1 := by omega
  unfold upT
  rw [e, List.replicate_succ, List.set_append_right _ _ (by omega), hl, Nat.sub_self, List.set_cons_zero, take_snoc xs h, List.map_append, List.append_assoc]
  rfl
theorem map_textB (xs : List Int) : (xs.map textB).map (·.data.toList) = xs.map itoa := by
  rw [List.map_map]
  exact List.map_congr_left fun x _ => by simp [textB, Function.comp]

set_option maxRecDepth 100000 in
set_option maxHeartbeats 1600000 in
theorem withCommas_impl (v : Value) (xs : List Int) (w : World) (hv : IsInts w v xs) (hl : xs.length ≤ 1000000) (hf : Fine xs) (hL : LaidW w) :
    Calls Tryz.prog 55 #[v] w fun e w' => e = .returned (strV (listT xs)) ∧ Below w.heap.size w w' := by
  obtain ⟨i0, hi, hz0, hz1, hz2⟩ := info_parts infoStr
  have HLW := Lib.hid hL
  clear hL
  obtain ⟨a, cap, rfl, hc⟩ := hv
  go_enter Tryz.func55, Tryz.ntmps55
  go_wp2_with (at_make; refine wpList_make_full _ rfl _ _ 23 rfl w.heap.size 9 i0 (.string ByteArray.empty) 1 Tryz.underlying23 hi hz0 hz1 _ _ _ _ xs.length rfl rfl rfl rfl ?b2 ?b3 (Nat.le_refl _) ?_)
  case b2 => rw [hz2]; omega
  case b3 => unfold maxLen; omega
  intro w0 hown0 hgrow0
  have hb0 : Below w.heap.size w w0 := below_grown hgrow0 (Nat.le_refl _) (fun k h => by cases h)
  have oe : OwnStr w0 w.heap.size (sl w.heap.size xs.length xs.length) (List.replicate xs.length ByteArray.empty) := ownS_made hown0
  rw [← upT_zero] at oe
  clear hown0 hgrow0
  go_wp2
  go_loopw [11] (fun iv wr => ∃ (k : Nat), k ≤ xs.length ∧ iv = .int .i64 k ∧ OwnStr wr w.heap.size (sl w.heap.size xs.length xs.length) (upT xs k) ∧ Below w.heap.size w wr) (fun iv _ => xs.length - (RowKit.intOf iv).toNat)
  case atStart => exact ⟨0, Nat.zero_le _, rfl, oe, hb0⟩
  case round =>
    obtain ⟨k, hk, rfl, own, hbl⟩ := hrel
    clear oe hb0
    by_cases hlt : k < xs.length
    · obtain ⟨b, off, rfl, c0⟩ := hc k hlt
      have hcell := (hbl.cell (by exact World.block_lt_of_cell? w _ c0)).trans c0
      have hz := hf (xs.getD k 0) (getD_mem hlt)
      have HI := Lib.hid (itoa_impl (xs.getD k 0) wr (by omega) (by omega) (HLW.out.below hbl))
      have HO := Lib.hid own
      have HS := Lib.hid (upT_set xs hlt)
      have HU := Lib.hid (upT_len xs hk)
      have HB := Lib.hid hbl
      have i1 : (k : Int) < (xs.length : Int) := by omega
      clear hc c0 own hbl
      generalize xs.getD k 0 = z at *
      go_wp2_with (go_at_call 67; refine HI.out.mono ?_; rintro e w2 ⟨rfl, b2⟩; refine Hid.out ?_)
      refine Lib.hid ?_
      have o2 := HO.out.below b2
      have hcd := o2.cell HU.out k hlt
      have hfd := o2.frozen HU.out k
      have hst := o2.set HU.out k (textB z)
      rw [HS.out] at hst
      have bb := HB.out.trans (b2.mono HB.out.size)
      have HS1 := Lib.hid hst.1
      have HS2 := Lib.hid (bb.trans (below_grown (B := w.heap.size) hst.2 bb.size (fun q hq => by cases hq; exact Nat.le_refl _)))
      clear hst o2 bb b2
      go_wp2
      go_roundw
      case rel => exact ⟨k + 1, by omega, by go_num, HS1.out, HS2.out⟩
      case measure => simp [RowKit.intOf]; omega
    · have ek : k = xs.length := by omega
      subst ek
      rw [upT_all] at own
      rcases Nat.eq_zero_or_pos xs.length with h0 | h0
      · obtain rfl : xs = [] := List.length_eq_zero_iff.1 h0
        go_wp2_with (go_at_call 68; refine (Tryz.strings_Join_none _ _ _ _).mono ?_; rintro e w2 ⟨rfl, rfl⟩)
        go_ret
        exact ⟨rfl, hbl⟩
      · have hlen : (join ((xs.map textB).map (·.data.toList)) [44]).length ≤ 140737488355328 := by
          rw [map_textB]
          have := listT_len hf
          unfold listT at this
          omega
        have HJ := Lib.hid (Tryz.strings_Join w.heap.size 0 xs.length (xs.map textB) ⟨#[44]⟩ wr (fun j x hx => by
          have hj : j < (xs.map textB).length := by
            rcases Nat.lt_or_ge j (xs.map textB).length with h | h
            · exact h
            · rw [List.getElem?_eq_none h] at hx; cases hx
          have := own.cell (by simp) j (by simpa using hj)
          rw [Nat.zero_add, this, List.getD, hx]
          rfl) own.baseLe.2 (by simp; omega) (by simp) hlen)
        rw [List.length_map] at HJ
        rw [map_textB] at HJ
        clear hc own
        go_wp2_with (go_at_call 68; refine HJ.out.mono ?_; rintro e w2 ⟨rfl, b2⟩)
        go_ret
        exact ⟨rfl, hbl.trans (b2.mono hbl.size)⟩
end Go.Proofs.YtpenbkfchgeafaaGreatDoor

namespace Go.Proofs.YtpenbkfchgeafaaGreatDoor
open Go.RowKit Go.Lib

def deskE : List (List UInt8 × Int) := [(tRest, 2), (tSums, 2), (tWays, 2), (tCoins, 2), (tBill, 1)]
def deskFrom (l : List UInt8) (n : Int) (k : Nat) : Bool := (deskE.drop k).any fun e => decide (l = e.1) && decide (n = e.2)
theorem deskFrom_hit {l : List UInt8} {n : Int} {k : Nat} {e : List UInt8 × Int} {r : List (List UInt8 × Int)} (hd : deskE.drop k = e :: r) (h1 : l = e.1) (h2 : n = e.2) : deskFrom l n k = true := by
  unfold deskFrom
  rw [hd]
  simp [h1, h2]
theorem deskFrom_miss {l : List UInt8} {n : Int} {k : Nat} {e : List UInt8 × Int} (hd : deskE.drop k = e :: deskE.drop (k + 1)) (h : ¬ (l = e.1 ∧ n = e.2)) : deskFrom l n k = deskFrom l n (k + 1) := by
  unfold deskFrom
  rw [hd, List.any_cons]
  have : (decide (l = e.1) && decide (n = e.2)) = false := by
    rw [Bool.and_eq_false_iff]
    rcases Classical.em (l = e.1) with h1 | h1
    · exact .inr (decide_eq_false fun h2 => h ⟨h1, h2⟩)
    · exact .inl (decide_eq_false h1)
  rw [this, Bool.false_or]

theorem deskIdx0 (w : World) : (Instr.index 111 (.agg #[.string ⟨#[114, 101, 115, 116]⟩, .int .i64 2, .string ⟨#[115, 117, 109, 115]⟩, .int .i64 2, .string ⟨#[119, 97, 121, 115]⟩, .int .i64 2, .string ⟨#[99, 111, 105, 110, 115]⟩, .int .i64 2, .string ⟨#[98, 105, 108, 108]⟩, .int .i64 1]) (.int .i64 0)).run Tryz.prog w = .ok (.agg #[.string ⟨#[114, 101, 115, 116]⟩, .int .i64 2]) w := by kernel_rfl
theorem deskIdx1 (w : World) : (Instr.index 111 (.agg #[.string ⟨#[114, 101, 115, 116]⟩, .int .i64 2, .string ⟨#[115, 117, 109, 115]⟩, .int .i64 2, .string ⟨#[119, 97, 121, 115]⟩, .int .i64 2, .string ⟨#[99, 111, 105, 110, 115]⟩, .int .i64 2, .string ⟨#[98, 105, 108, 108]⟩, .int .i64 1]) (.int .i64 1)).run Tryz.prog w = .ok (.agg #[.string ⟨#[115, 117, 109, 115]⟩, .int .i64 2]) w := by kernel_rfl
theorem deskIdx2 (w : World) : (Instr.index 111 (.agg #[.string ⟨#[114, 101, 115, 116]⟩, .int .i64 2, .string ⟨#[115, 117, 109, 115]⟩, .int .i64 2, .string ⟨#[119, 97, 121, 115]⟩, .int .i64 2, .string ⟨#[99, 111, 105, 110, 115]⟩, .int .i64 2, .string ⟨#[98, 105, 108, 108]⟩, .int .i64 1]) (.int .i64 2)).run Tryz.prog w = .ok (.agg #[.string ⟨#[119, 97, 121, 115]⟩, .int .i64 2]) w := by kernel_rfl
theorem deskIdx3 (w : World) : (Instr.index 111 (.agg #[.string ⟨#[114, 101, 115, 116]⟩, .int .i64 2, .string ⟨#[115, 117, 109, 115]⟩, .int .i64 2, .string ⟨#[119, 97, 121, 115]⟩, .int .i64 2, .string ⟨#[99, 111, 105, 110, 115]⟩, .int .i64 2, .string ⟨#[98, 105, 108, 108]⟩, .int .i64 1]) (.int .i64 3)).run Tryz.prog w = .ok (.agg #[.string ⟨#[99, 111, 105, 110, 115]⟩, .int .i64 2]) w := by kernel_rfl
theorem deskIdx4 (w : World) : (Instr.index 111 (.agg #[.string ⟨#[114, 101, 115, 116]⟩, .int .i64 2, .string ⟨#[115, 117, 109, 115]⟩, .int .i64 2, .string ⟨#[119, 97, 121, 115]⟩, .int .i64 2, .string ⟨#[99, 111, 105, 110, 115]⟩, .int .i64 2, .string ⟨#[98, 105, 108, 108]⟩, .int .i64 1]) (.int .i64 4)).run Tryz.prog w = .ok (.agg #[.string ⟨#[98, 105, 108, 108]⟩, .int .i64 1]) w := by kernel_rfl
set_option maxRecDepth 100000 in
set_option maxHeartbeats 1600000 in
theorem isDeskWord_impl (q : ByteArray) (n : Int) (w : World) (hL : LaidW w) :
    Calls Tryz.prog 52 #[.string q, .int .i64 n] w fun e w' => e = .returned (.bool (deskFrom q.data.toList n 0)) ∧ Below w.heap.size w w' := by
  have c0 := hL.wordCell 0
  have c1 := hL.wordCell 1
  have c2 := hL.wordCell 2
  have c3 := hL.wordCell 3
  have c4 := hL.wordCell 4
  have c5 := hL.wordCell 5
  have c6 := hL.wordCell 6
  have c7 := hL.wordCell 7
  have c8 := hL.wordCell 8
  have c9 := hL.wordCell 9
  simp only [wordRow, List.getElem?_toArray, List.getElem?_cons_zero, List.getElem?_cons_succ] at c0 c1 c2 c3 c4 c5 c6 c7 c8 c9
  clear hL
  go_enter Tryz.func52, Tryz.ntmps52
  go_wp2
  go_loopw [8] (fun iv wr => ∃ k : Nat, k ≤ 5 ∧ iv = .int .i64 k ∧ deskFrom q.data.toList n 0 = deskFrom q.data.toList n k ∧ Below w.heap.size w wr) (fun iv _ => 5 - (RowKit.intOf iv).toNat)
  case atStart => exact ⟨0, by omega, rfl, rfl, Below.refl _ _⟩
  case round =>
    obtain ⟨k, hk, rfl, hf, hb⟩ := hrel
    have HF := Lib.hid hf
    have HB := Lib.hid hb
    clear hf hb c0 c1 c2 c3 c4 c5 c6 c7 c8 c9
    rcases (show k = 0 ∨ k = 1 ∨ k = 2 ∨ k = 3 ∨ k = 4 ∨ k = 5 by omega) with rfl | rfl | rfl | rfl | rfl | rfl
    · rw [show ((0 : Nat) : Int) = 0 from rfl]
      have hx := deskIdx0
      by_cases hq : q.data.toList = tRest
      · have k0 : ([114, 101, 115, 116] == q.toList) = true := by rw [ByteArray.toList_eq, hq]; rfl
        by_cases hn : n = 2
        · have HE := Lib.hid (deskFrom_hit (l := q.data.toList) (n := n) (k := 0) rfl hq hn)
          subst hn
          clear hq
          go_wp2
          go_ret
          exact ⟨congrArg (fun b => Ending.returned (.bool b)) HE.out.symm, HB.out.trans ((Below.refl _ _).alloc HB.out.size _)⟩
        · have HE := Lib.hid (deskFrom_miss (l := q.data.toList) (n := n) (k := 0) rfl fun h => hn h.2)
          have k1 : (2 == n) = false := beq_eq_false_iff_ne.2 fun e => hn e.symm
          have k2 : ¬ 2 = n := fun e => hn e.symm
          clear hq
          go_wp2
          go_roundw
          case rel => exact ⟨1, by omega, by go_num, HE.out, HB.out.trans ((Below.refl _ _).alloc HB.out.size _)⟩
          case measure => simp [RowKit.intOf]
      · have HE := Lib.hid (deskFrom_miss (l := q.data.toList) (n := n) (k := 0) rfl fun h => hq h.1)
        have k0 : ([114, 101, 115, 116] == q.toList) = false := by rw [ByteArray.toList_eq]; exact beq_eq_false_iff_ne.2 fun e => hq e.symm
        clear hq
        go_wp2
        go_roundw
        case rel => exact ⟨1, by omega, by go_num, HE.out, HB.out.trans ((Below.refl _ _).alloc HB.out.size _)⟩
        case measure => simp [RowKit.intOf]
    · rw [show ((1 : Nat) : Int) = 1 from rfl]
      have hx := deskIdx1
      by_cases hq : q.data.toList = tSums
      · have k0 : ([115, 117, 109, 115] == q.toList) = true := by rw [ByteArray.toList_eq, hq]; rfl
        by_cases hn : n = 2
        · have HE := Lib.hid (deskFrom_hit (l := q.data.toList) (n := n) (k := 1) rfl hq hn)
          subst hn
          clear hq
          go_wp2
          go_ret
          exact ⟨congrArg (fun b => Ending.returned (.bool b)) (HF.out.trans HE.out).symm, HB.out.trans ((Below.refl _ _).alloc HB.out.size _)⟩
        · have HE := Lib.hid (deskFrom_miss (l := q.data.toList) (n := n) (k := 1) rfl fun h => hn h.2)
          have k1 : (2 == n) = false := beq_eq_false_iff_ne.2 fun e => hn e.symm
          have k2 : ¬ 2 = n := fun e => hn e.symm
          clear hq
          go_wp2
          go_roundw
          case rel => exact ⟨2, by omega, by go_num, HF.out.trans HE.out, HB.out.trans ((Below.refl _ _).alloc HB.out.size _)⟩
          case measure => simp [RowKit.intOf]
      · have HE := Lib.hid (deskFrom_miss (l := q.data.toList) (n := n) (k := 1) rfl fun h => hq h.1)
        have k0 : ([115, 117, 109, 115] == q.toList) = false := by rw [ByteArray.toList_eq]; exact beq_eq_false_iff_ne.2 fun e => hq e.symm
        clear hq
        go_wp2
        go_roundw
        case rel => exact ⟨2, by omega, by go_num, HF.out.trans HE.out, HB.out.trans ((Below.refl _ _).alloc HB.out.size _)⟩
        case measure => simp [RowKit.intOf]
    · rw [show ((2 : Nat) : Int) = 2 from rfl]
      have hx := deskIdx2
      by_cases hq : q.data.toList = tWays
      · have k0 : ([119, 97, 121, 115] == q.toList) = true := by rw [ByteArray.toList_eq, hq]; rfl
        by_cases hn : n = 2
        · have HE := Lib.hid (deskFrom_hit (l := q.data.toList) (n := n) (k := 2) rfl hq hn)
          subst hn
          clear hq
          go_wp2
          go_ret
          exact ⟨congrArg (fun b => Ending.returned (.bool b)) (HF.out.trans HE.out).symm, HB.out.trans ((Below.refl _ _).alloc HB.out.size _)⟩
        · have HE := Lib.hid (deskFrom_miss (l := q.data.toList) (n := n) (k := 2) rfl fun h => hn h.2)
          have k1 : (2 == n) = false := beq_eq_false_iff_ne.2 fun e => hn e.symm
          have k2 : ¬ 2 = n := fun e => hn e.symm
          clear hq
          go_wp2
          go_roundw
          case rel => exact ⟨3, by omega, by go_num, HF.out.trans HE.out, HB.out.trans ((Below.refl _ _).alloc HB.out.size _)⟩
          case measure => simp [RowKit.intOf]
      · have HE := Lib.hid (deskFrom_miss (l := q.data.toList) (n := n) (k := 2) rfl fun h => hq h.1)
        have k0 : ([119, 97, 121, 115] == q.toList) = false := by rw [ByteArray.toList_eq]; exact beq_eq_false_iff_ne.2 fun e => hq e.symm
        clear hq
        go_wp2
        go_roundw
        case rel => exact ⟨3, by omega, by go_num, HF.out.trans HE.out, HB.out.trans ((Below.refl _ _).alloc HB.out.size _)⟩
        case measure => simp [RowKit.intOf]
    · rw [show ((3 : Nat) : Int) = 3 from rfl]
      have hx := deskIdx3
      by_cases hq : q.data.toList = tCoins
      · have k0 : ([99, 111, 105, 110, 115] == q.toList) = true := by rw [ByteArray.toList_eq, hq]; rfl
        by_cases hn : n = 2
        · have HE := Lib.hid (deskFrom_hit (l := q.data.toList) (n := n) (k := 3) rfl hq hn)
          subst hn
          clear hq
          go_wp2
          go_ret
          exact ⟨congrArg (fun b => Ending.returned (.bool b)) (HF.out.trans HE.out).symm, HB.out.trans ((Below.refl _ _).alloc HB.out.size _)⟩
        · have HE := Lib.hid (deskFrom_miss (l := q.data.toList) (n := n) (k := 3) rfl fun h => hn h.2)
          have k1 : (2 == n) = false := beq_eq_false_iff_ne.2 fun e => hn e.symm
          have k2 : ¬ 2 = n := fun e => hn e.symm
          clear hq
          go_wp2
          go_roundw
          case rel => exact ⟨4, by omega, by go_num, HF.out.trans HE.out, HB.out.trans ((Below.refl _ _).alloc HB.out.size _)⟩
          case measure => simp [RowKit.intOf]
      · have HE := Lib.hid (deskFrom_miss (l := q.data.toList) (n := n) (k := 3) rfl fun h => hq h.1)
        have k0 : ([99, 111, 105, 110, 115] == q.toList) = false := by rw [ByteArray.toList_eq]; exact beq_eq_false_iff_ne.2 fun e => hq e.symm
        clear hq
        go_wp2
        go_roundw
        case rel => exact ⟨4, by omega, by go_num, HF.out.trans HE.out, HB.out.trans ((Below.refl _ _).alloc HB.out.size _)⟩
        case measure => simp [RowKit.intOf]
    · rw [show ((4 : Nat) : Int) = 4 from rfl]
      have hx := deskIdx4
      by_cases hq : q.data.toList = tBill
      · have k0 : ([98, 105, 108, 108] == q.toList) = true := by rw [ByteArray.toList_eq, hq]; rfl
        by_cases hn : n = 1
        · have HE := Lib.hid (deskFrom_hit (l := q.data.toList) (n := n) (k := 4) rfl hq hn)
          subst hn
          clear hq
          go_wp2
          go_ret
          exact ⟨congrArg (fun b => Ending.returned (.bool b)) (HF.out.trans HE.out).symm, HB.out.trans ((Below.refl _ _).alloc HB.out.size _)⟩
        · have HE := Lib.hid (deskFrom_miss (l := q.data.toList) (n := n) (k := 4) rfl fun h => hn h.2)
          have k1 : (1 == n) = false := beq_eq_false_iff_ne.2 fun e => hn e.symm
          have k2 : ¬ 1 = n := fun e => hn e.symm
          clear hq
          go_wp2
          go_roundw
          case rel => exact ⟨5, by omega, by go_num, HF.out.trans HE.out, HB.out.trans ((Below.refl _ _).alloc HB.out.size _)⟩
          case measure => simp [RowKit.intOf]
      · have HE := Lib.hid (deskFrom_miss (l := q.data.toList) (n := n) (k := 4) rfl fun h => hq h.1)
        have k0 : ([98, 105, 108, 108] == q.toList) = false := by rw [ByteArray.toList_eq]; exact beq_eq_false_iff_ne.2 fun e => hq e.symm
        clear hq
        go_wp2
        go_roundw
        case rel => exact ⟨5, by omega, by go_num, HF.out.trans HE.out, HB.out.trans ((Below.refl _ _).alloc HB.out.size _)⟩
        case measure => simp [RowKit.intOf]
    · go_wp2
      go_ret
      exact ⟨congrArg (fun b => Ending.returned (.bool b)) HF.out.symm, HB.out⟩
end Go.Proofs.YtpenbkfchgeafaaGreatDoor
