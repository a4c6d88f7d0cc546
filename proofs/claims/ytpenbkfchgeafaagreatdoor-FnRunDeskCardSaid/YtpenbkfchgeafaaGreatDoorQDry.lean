/- The answers to lines, in the program, beside others that only leave. The law FnExactRunDesk, beside others that only leave. The law FnRunDesk, beside others that only leave. -/
import Derived.Test.YtpenbkfchgeafaaGreatDoorQDrx
import Derived.Test.YtpenbkfchgeafaaGreatDoorQDo
import Derived.Test.YtpenbkfchgeafaaGreatDoorShelfB
import Derived.Test.YtpenbkfchgeafaaGreatDoorQHh
import Derived.Test.YtpenbkfchgeafaaGreatDoorQDdo
namespace Go.Proofs.YtpenbkfchgeafaaGreatDoor
open Go Go.Conc Go.RowKit Go.Lib

abbrev deskB (k : Nat) (l : List UInt8) (W : World) : Prop := IsBuilder 43 5 k k (byteCells l) W
theorem builder_below {k : Nat} {l : List UInt8} {W W' : World} (h : deskB k l W) (hb : Below W.heap.size W W') : deskB k l W' := by
  have key : ∀ p, BuilderAt 43 5 k k p (byteCells l) W → BuilderAt 43 5 k k p (byteCells l) W' := fun p h => by
    have hlt := h.lt
    obtain ⟨h0, v, h1, h2, h3⟩ := h
    exact ⟨h0, v, (hb.block k hlt).trans h1, World.ownsRow.kept h2 (grown_below hb none) (by cases hv : v.ownBlock <;> simp), h3⟩
  exact h.elim (fun h => .inl (key _ h)) fun h => .inr (key _ h)
theorem builder_belX {k : Nat} {l : List UInt8} {W W' : World} (h : deskB k l W) (hb : BelX W.heap.size W W') : deskB k l W' := builder_below (show deskB k l (On W W'.tape 0) from h) hb.belowOn
theorem strs_belX {w w' : World} {v : Value} {ps : List ByteArray} (h : IsStrs w v ps) (hb : BelX w.heap.size w w') : IsStrs w' v ps := IsStrs.below (show IsStrs (On w w'.tape 0) v ps from h) hb.belowOn
theorem write_B {k : Nat} {l : List UInt8} {W : World} (h : deskB k l W) (m : List UInt8) (hl : l.length + m.length ≤ 100000) (hk : k ≤ W.heap.size) :
    CallsB Tryz.prog 21 #[.pointer (some ⟨k, 0, none⟩), strV m] W fun v w' => v = .tuple #[.int .i64 m.length, .nilIface] ∧ deskB k (l ++ m) w' ∧ BelX k W w' :=
  CallsB.ofCalls plain_prog (fun v u τ d h => ⟨h.1, h.2.1, h.2.2.on τ d⟩) fun τ => (Tryz.WriteString k k (byteCells l) ⟨m.toArray⟩ (On W τ 0) h (by rw [byteCells_length]; have e : (⟨m.toArray⟩ : ByteArray).size = m.length := (by simp [ByteArray.size]); omega) hk).mono fun e w' h => by
    obtain ⟨rfl, h1, h2⟩ := h
    refine ⟨_, rfl, ?_, .inr ?_, BelX.ofOn h2⟩
    · have e : (⟨m.toArray⟩ : ByteArray).size = m.length := by simp [ByteArray.size]
      rw [e]
    · have e : byteCells l ++ strCells ⟨m.toArray⟩ = byteCells (l ++ m) := by simp [byteCells, strCells]
      rw [← e]
      exact h1
theorem writeByte_B {k : Nat} {l : List UInt8} {W : World} (h : deskB k l W) (hl : l.length ≤ 100000) (hk : k ≤ W.heap.size) :
    CallsB Tryz.prog 23 #[.pointer (some ⟨k, 0, none⟩), .int .u8 10] W fun v w' => v = .nilIface ∧ deskB k (l ++ [10]) w' ∧ BelX k W w' :=
  CallsB.ofCalls plain_prog (fun v u τ d h => ⟨h.1, h.2.1, h.2.2.on τ d⟩) fun τ => (Tryz.WriteByte k k (byteCells l) 10 (On W τ 0) h (by rw [byteCells_length]; omega) hk).mono fun e w' h => by
    obtain ⟨rfl, h1, h2⟩ := h
    refine ⟨_, rfl, rfl, .inr ?_, BelX.ofOn h2⟩
    have e : byteCells l ++ [Value.int .u8 10] = byteCells (l ++ [10]) := by simp [byteCells]
    rw [← e]
    exact h1
theorem builderText_B {k : Nat} {l : List UInt8} {W : World} (h : deskB k l W) (hk : k ≤ W.heap.size) :
    CallsB Tryz.prog 24 #[.pointer (some ⟨k, 0, none⟩)] W fun v w' => v = strV l ∧ BelX k W w' :=
  CallsB.ofCalls plain_prog (fun v u τ d h => ⟨h.1, h.2.on τ d⟩) fun τ => (Tryz.Builder_String_any k k l (On W τ 0) h hk).mono fun e w' h => by
    obtain ⟨rfl, h2⟩ := h
    exact ⟨_, rfl, rfl, BelX.ofOn h2⟩

set_option maxRecDepth 100000 in
theorem RunDesk_many (v : Value) (ps : List ByteArray) (w : World) (hv : IsStrs w v ps) (hl : 20 < ps.length) (hm : ps.length ≤ 9223372036854775807) :
    Calls Tryz.prog 6 #[v] w fun e w' => e = .returned (strV (deskV ps)) ∧ Below w.heap.size w w' := by
  obtain ⟨a, cap, rfl, _⟩ := hv
  have hd : deskV ps = [] := if_neg (by omega)
  have HD := Lib.hid hd
  have h1 : (20 : Int) < (ps.length : Int) := by omega
  clear hd
  go_enter Tryz.func6, Tryz.ntmps6
  go_wp2
  go_ret
  exact ⟨congrArg (fun l => Ending.returned (strV l)) HD.out.symm, Below.refl _ _⟩


theorem str_cell {w : World} {a : Option Addr} {n cap : Nat} {ps : List ByteArray} (h : IsStrs w (.slice a n cap) ps) {j : Nat} (hj : j < ps.length) : ∃ b off, a = some ⟨b, off, none⟩ ∧ w.cell? ⟨b, off + j, none⟩ = some (.string (ps.getD j ByteArray.empty)) := by
  obtain ⟨a', cap', e, h⟩ := h
  simp only [Value.slice.injEq] at e
  obtain ⟨rfl, _, _⟩ := e
  exact h j hj

set_option maxRecDepth 100000 in
set_option maxHeartbeats 3200000 in
theorem RunDesk_B (v : Value) (ps : List ByteArray) (w : World) (hv : IsStrs w v ps) (hs : ∀ k, k < ps.length → (ps.getD k ByteArray.empty).size ≤ 1048575) (hm : ps.length ≤ 9223372036854775807) (hL : LaidW w) :
    CallsB Tryz.prog 6 #[v] w fun r w' => r = strV (deskV ps) ∧ BelX w.heap.size w w' := by
  by_cases h20 : 20 < ps.length
  · exact CallsB.ofBelow fun τ => (RunDesk_many v ps (On w τ 0) hv h20 hm).mono fun _ _ h => ⟨_, h.1, rfl, h.2⟩
  have hd : deskV ps = linesV ps := if_pos (by omega)
  have hle : ¬ (20 : Int) < (ps.length : Int) := by omega
  have hv' := hv
  obtain ⟨a, cap, rfl, _⟩ := hv'
  intro fs hfs
  rw [enter_bN _ Tryz.func6 rfl]
  simp only [Tryz.ntmps6, List.size_toArray, List.length_cons, List.length_nil, Nat.reduceAdd, Nat.reduceSub, Array.replicate_succ, Array.replicate_zero, List.push_toArray, List.append_toArray, List.nil_append, List.cons_append]
  have hn := PlainT.nil
  refine Reach.seq plain_prog hn hfs ?_
  refine Reach.region plain_prog (plain_code hn) hfs ?_
  simp only [List.size_toArray, List.length_cons, List.length_nil, Nat.zero_add, List.range, List.range.loop]
  refine Reach.val plain_prog (.string ⟨#[]⟩) (plain_code hn) hfs rfl rfl (by decide) (fun τ d => by simp [go_sem, execOp, Act.eval]) ?_
  walk_nrm
  refine Reach.regionEnd plain_prog (plain_code hn) hfs ?_
  refine Reach.seq plain_prog hn hfs ?_
  refine Reach.seq plain_prog (plain_code hn) hfs ?_
  refine Reach.region plain_prog (plain_code (plain_code hn)) hfs ?_
  simp only [List.size_toArray, List.length_cons, List.length_nil, Nat.reduceAdd, Nat.zero_add, List.range, List.range.loop]
  refine Reach.val plain_prog (.slice a ps.length cap) (plain_code (plain_code hn)) hfs rfl rfl (by decide) (fun τ d => by simp [go_sem, execOp, Act.eval]) ?_
  walk_nrm
  refine Reach.val plain_prog (.int .i64 (ps.length : Int)) (plain_code (plain_code hn)) hfs rfl rfl (by decide) (fun τ d => by simp [go_sem, execOp, Act.eval]) ?_
  walk_nrm
  refine Reach.val plain_prog (.bool false) (plain_code (plain_code hn)) hfs rfl rfl (by decide) (fun τ d => by simp [go_sem, execOp, Act.eval, hle]) ?_
  walk_nrm
  refine Reach.regionEnd plain_prog (plain_code (plain_code hn)) hfs ?_
  refine Reach.cond plain_prog false rfl (plain_code hn) hfs ?_
  simp only [Bool.false_eq_true, if_false]
  refine Reach.skip plain_prog (plain_code hn) hfs ?_
  refine Reach.seq plain_prog hn hfs ?_
  refine Reach.region plain_prog (plain_code hn) hfs ?_
  simp only [List.size_toArray, List.length_cons, List.length_nil, Nat.zero_add, List.range, List.range.loop]
  refine Reach.opv plain_prog (.pointer (some ⟨w.heap.size, 0, none⟩)) (w.alloc (.cells #[.pointer none, .slice none 0 0] 43)) rfl (plain_code hn) hfs rfl rfl (by decide) (fun τ d => by rfl) ?_
  walk_nrm
  refine Reach.regionEnd plain_prog (plain_code hn) hfs ?_
  have hb0 : deskB w.heap.size [] (w.alloc (.cells #[.pointer none, .slice none 0 0] 43)) := fresh_isBuilder _ _ w
  have b0 : BelX w.heap.size w (w.alloc (.cells #[.pointer none, .slice none 0 0] 43)) := BelX.of ((Below.refl _ _).alloc (Nat.le_refl _) _)
  generalize (w.alloc (.cells #[.pointer none, .slice none 0 0] 43)) = w1 at *
  refine Reach.seq plain_prog hn hfs ?_
  refine Reach.seq plain_prog (plain_code hn) hfs ?_
  refine Reach.region plain_prog (plain_code (plain_code hn)) hfs ?_
  simp only [List.size_toArray, List.length_cons, List.length_nil, Nat.reduceAdd, Nat.zero_add, List.range, List.range.loop]
  refine Reach.val plain_prog (.slice a ps.length cap) (plain_code (plain_code hn)) hfs rfl rfl (by decide) (fun τ d => by simp [go_sem, execOp, Act.eval]) ?_
  walk_nrm
  refine Reach.val plain_prog (.int .i64 (ps.length : Int)) (plain_code (plain_code hn)) hfs rfl rfl (by decide) (fun τ d => by simp [go_sem, execOp, Act.eval]) ?_
  walk_nrm
  refine Reach.val plain_prog (.int .i64 0) (plain_code (plain_code hn)) hfs rfl rfl (by decide) (fun τ d => by simp [go_sem, execOp, Act.eval]) ?_
  walk_nrm
  refine Reach.regionEnd plain_prog (plain_code (plain_code hn)) hfs ?_
  refine Reach.block plain_prog (plain_code hn) hfs ?_
  refine Reach.loop plain_prog (n := ps.length) (fun m a' w' => ∃ i : Nat, i ≤ ps.length ∧ m = ps.length - i ∧ (∃ x5 x12 x13 x14 x15 x16 x17 x18 x19, a' = ⟨#[(.slice a ps.length cap), undef, (.string ⟨#[]⟩), (.pointer (some ⟨w.heap.size, 0, none⟩)), undef, x5, (.slice a ps.length cap), (.int .i64 (ps.length : Int)), (.bool false), (.slice a ps.length cap), (.int .i64 (ps.length : Int)), (.int .i64 (i : Int)), x12, x13, x14, x15, x16, x17, x18, x19, undef], []⟩) ∧ BelX w.heap.size w w' ∧ deskB w.heap.size (linesV (ps.take i)) w') (plain_item (x := .inBlock 0) trivial (plain_code hn)) hfs ?_ ⟨0, Nat.zero_le _, rfl, ⟨_, _, _, _, _, _, _, _, _, rfl⟩, b0, hb0⟩
  rintro m _ w5 ⟨i, hi, rfl, ⟨x5, x12, x13, x14, x15, x16, x17, x18, x19, rfl⟩, b5, d5⟩ hk ih
  refine Reach.seq plain_prog hk hfs ?_
  by_cases hlt : (i : Int) < (ps.length : Int)
  · refine Reach.region plain_prog (plain_code hk) hfs ?_
    simp only [List.size_toArray, List.length_cons, List.length_nil, Nat.zero_add, List.range, List.range.loop]
    refine Reach.val plain_prog (.bool true) (plain_code hk) hfs rfl rfl (by decide) (fun τ d => by simp [go_sem, execOp, Act.eval, hlt]) ?_
    walk_nrm
    refine Reach.regionEnd plain_prog (plain_code hk) hfs ?_
    refine Reach.seq plain_prog hk hfs ?_
    refine Reach.cond plain_prog true rfl (plain_code hk) hfs ?_
    simp only [if_true]
    refine Reach.skip plain_prog (plain_code hk) hfs ?_
    refine Reach.seq plain_prog hk hfs ?_
    refine Reach.block plain_prog (plain_code hk) hfs ?_
    have hv5 := strs_belX hv b5
    obtain ⟨b, off, rfl, c5⟩ := str_cell hv5 (j := i) (by omega)
    have hlt1 : ¬ (ps.length ≤ i) := by omega
    refine Reach.seq plain_prog (plain_item (x := .inBlock 1) trivial (plain_code hk)) hfs ?_
    refine Reach.region plain_prog (plain_code (plain_item (x := .inBlock 1) trivial (plain_code hk))) hfs ?_
    simp only [List.size_toArray, List.length_cons, List.length_nil, Nat.reduceAdd, Nat.zero_add, List.range, List.range.loop]
    refine Reach.val plain_prog (.pointer (some ⟨b, off + i, none⟩)) (plain_code (plain_item (x := .inBlock 1) trivial (plain_code hk))) hfs rfl rfl (by decide) (fun τ d => by simp [go_sem, execOp, Act.eval, hlt1]) ?_
    walk_nrm
    refine Reach.val plain_prog (.string (ps.getD i ByteArray.empty)) (plain_code (plain_item (x := .inBlock 1) trivial (plain_code hk))) hfs rfl rfl (by decide) (fun τ d => by simp [go_sem, execOp, Act.eval, on_cell, c5]) ?_
    walk_nrm
    refine Reach.val plain_prog (.string (ps.getD i ByteArray.empty)) (plain_code (plain_item (x := .inBlock 1) trivial (plain_code hk))) hfs rfl rfl (by decide) (fun τ d => by simp [go_sem, execOp, Act.eval]) ?_
    walk_nrm
    refine Reach.regionEnd plain_prog (plain_code (plain_item (x := .inBlock 1) trivial (plain_code hk))) hfs ?_
    refine Reach.seq plain_prog (plain_item (x := .inBlock 1) trivial (plain_code hk)) hfs ?_
    have hz := linesV_len (ps.take i)
    rw [List.length_take] at hz
    have hpz := modelV_len (ps.getD i ByteArray.empty).data.toList
    rw [← prog_model] at hpz
    refine Reach.region plain_prog (plain_code (plain_item (x := .inBlock 1) trivial (plain_code hk))) hfs ?_
    simp only [List.size_toArray, List.length_cons, List.length_nil, Nat.reduceAdd, Nat.zero_add, List.range, List.range.loop]
    refine Reach.val plain_prog (.string (ps.getD i ByteArray.empty)) (plain_code (plain_item (x := .inBlock 1) trivial (plain_code hk))) hfs rfl rfl (by decide) (fun τ d => by simp [go_sem, execOp, Act.eval]) ?_
    walk_nrm
    refine Reach.call plain_prog (f := 22) (args := #[.string (ps.getD i ByteArray.empty)]) (plain_code (plain_item (x := .inBlock 1) trivial (plain_code hk))) hfs rfl rfl (by decide) (fun w => by simp [go_sem, execOp, Act.eval]) (replyTo_B _ w5 (hs i (by omega)) (hL.belX b5)) ?_
    rintro _ w6 ⟨rfl, hb6⟩
    walk_nrm
    have b6 : BelX w.heap.size w w6 := b5.trans (hb6.mono b5.size)
    have d6 := builder_belX d5 hb6
    refine Reach.call plain_prog (f := 21) (args := #[.pointer (some ⟨w.heap.size, 0, none⟩), strV (progV (ps.getD i ByteArray.empty).data.toList)]) (plain_code (plain_item (x := .inBlock 1) trivial (plain_code hk))) hfs rfl rfl (by decide) (fun w => by simp [go_sem, execOp, Act.eval]) (write_B d6 _ (by omega) b6.size) ?_
    rintro _ w7 ⟨rfl, d7, hb7⟩
    walk_nrm
    have b7 : BelX w.heap.size w w7 := b6.trans hb7
    refine Reach.regionEnd plain_prog (plain_code (plain_item (x := .inBlock 1) trivial (plain_code hk))) hfs ?_
    refine Reach.region plain_prog (plain_item (x := .inBlock 1) trivial (plain_code hk)) hfs ?_
    simp only [List.size_toArray, List.length_cons, List.length_nil, Nat.zero_add, List.range, List.range.loop]
    refine Reach.call plain_prog (f := 23) (args := #[.pointer (some ⟨w.heap.size, 0, none⟩), .int .u8 10]) (plain_item (x := .inBlock 1) trivial (plain_code hk)) hfs rfl rfl (by decide) (fun w => by simp [go_sem, execOp, Act.eval]) (writeByte_B d7 (by rw [List.length_append]; omega) b7.size) ?_
    rintro _ w8 ⟨rfl, d8, hb8⟩
    walk_nrm
    have b8 : BelX w.heap.size w w8 := b7.trans hb8
    refine Reach.regionEnd plain_prog (plain_item (x := .inBlock 1) trivial (plain_code hk)) hfs ?_
    refine Reach.inBlock plain_prog (plain_item (x := .inBlock 1) trivial (plain_code hk)) hfs ?_
    have hw1 : IntKind.i64.wrap ((i : Int) + 1) = ((i + 1 : Nat) : Int) := by rw [IntWalk.i64_in _ ⟨by omega, by omega⟩]; omega
    refine Reach.region plain_prog hk hfs ?_
    simp only [List.size_toArray, List.length_cons, List.length_nil, Nat.reduceAdd, Nat.zero_add, List.range, List.range.loop]
    refine Reach.val plain_prog (.int .i64 ((i + 1 : Nat) : Int)) hk hfs rfl rfl (by decide) (fun τ d => by simp [go_sem, execOp, Act.eval, hw1]) ?_
    walk_nrm
    refine Reach.val plain_prog (.int .i64 ((i + 1 : Nat) : Int)) hk hfs rfl rfl (by decide) (fun τ d => by simp [go_sem, execOp, Act.eval]) ?_
    walk_nrm
    refine Reach.regionEnd plain_prog hk hfs ?_
    rw [prog_model, ← linesV_next (by omega)] at d8
    exact ih (ps.length - (i + 1)) _ w8 (by omega) ⟨i + 1, by omega, rfl, ⟨_, _, _, _, _, _, _, _, _, rfl⟩, b8, d8⟩
  refine Reach.region plain_prog (plain_code hk) hfs ?_
  simp only [List.size_toArray, List.length_cons, List.length_nil, Nat.zero_add, List.range, List.range.loop]
  refine Reach.val plain_prog (.bool false) (plain_code hk) hfs rfl rfl (by decide) (fun τ d => by simp [go_sem, execOp, Act.eval, hlt]) ?_
  walk_nrm
  refine Reach.regionEnd plain_prog (plain_code hk) hfs ?_
  refine Reach.seq plain_prog hk hfs ?_
  refine Reach.cond plain_prog false rfl (plain_code hk) hfs ?_
  simp only [Bool.false_eq_true, if_false]
  refine Reach.exit plain_prog rfl (plain_code hk) hfs ?_
  have hil : ps.take i = ps := List.take_of_length_le (by omega)
  rw [hil] at d5
  refine Reach.seq plain_prog hn hfs ?_
  refine Reach.region plain_prog (plain_code hn) hfs ?_
  simp only [List.size_toArray, List.length_cons, List.length_nil, Nat.reduceAdd, Nat.zero_add, List.range, List.range.loop]
  refine Reach.call plain_prog (f := 24) (args := #[.pointer (some ⟨w.heap.size, 0, none⟩)]) (plain_code hn) hfs rfl rfl (by decide) (fun w => by simp [go_sem, execOp, Act.eval]) (builderText_B d5 b5.size) ?_
  rintro _ w6 ⟨rfl, hb6⟩
  walk_nrm
  have b6 : BelX w.heap.size w w6 := b5.trans hb6
  refine Reach.val plain_prog (strV (linesV ps)) (plain_code hn) hfs rfl rfl (by decide) (fun τ d => by simp [go_sem, execOp, Act.eval]) ?_
  walk_nrm
  refine Reach.regionEnd plain_prog (plain_code hn) hfs ?_
  refine Reach.ret plain_prog hn hfs ?_
  exact Reach.here fun d => ⟨_, _, rfl, rfl, ⟨rfl, rfl, rfl, _, Tryz.func6, by simp [results, Tryz.f6, Frame.at]⟩, plain_code hn, congrArg strV hd.symm, b6.on _ _⟩
end Go.Proofs.YtpenbkfchgeafaaGreatDoor

namespace Go.Proofs.YtpenbkfchgeafaaGreatDoor
open Go Go.Conc Go.RowKit Go.Lib

theorem strs_on {w : World} {v : Value} {ps : List ByteArray} (h : IsStrs w v ps) (τ : Tp) (d : Nat) : IsStrs (On w τ d) v ps := h
theorem ownS_on {w : World} {B : Nat} {v : Value} {ps : List ByteArray} (h : OwnStr w B v ps) (τ : Tp) (d : Nat) : OwnStr (On w τ d) B v ps := h
theorem ownS_belX {w w' : World} {B : Nat} {v : Value} {ps : List ByteArray} (h : OwnStr w B v ps) (hb : BelX w.heap.size w w') : OwnStr w' B v ps := OwnStr.below (show OwnStr (On w w'.tape 0) B v ps from h) hb.belowOn
theorem szStringS_B (v : Value) (ps : List ByteArray) (w : World) (hv : IsStrs w v ps) (hlen : ps.length ≤ 9223372036854775807) (hb : ∀ k, k < ps.length → (ps.getD k ByteArray.empty).size ≤ 9223372036854775807) :
    CallsB Tryz.prog 9 #[v, .int .i64 1048576] w fun r w' => (∃ x : Int, r = .int .i64 x ∧ (x < 0 ∨ (ps.length ≤ 1048576 ∧ ∀ k, k < ps.length → (ps.getD k ByteArray.empty).size ≤ 1048575))) ∧ BelX w.heap.size w w' :=
  CallsB.ofBelow fun τ => (szStringS_any v ps 1048576 (On w τ 0) hv (Nat.le_refl _) hlen hb).mono fun _ _ h => by
    obtain ⟨x, rfl, h1, rfl⟩ := h
    refine ⟨_, rfl, ⟨x, rfl, h1.imp id fun h => ⟨h.1, fun k hk => ?_⟩⟩, Below.refl _ _⟩
    have := h.2 k hk
    omega
theorem toStringS_B (v : Value) (ps : List ByteArray) (w : World) (hv : IsStrs w v ps) (hl : ps.length ≤ 1048576) :
    CallsB Tryz.prog 10 #[v] w fun r w' => OwnStr w' w.heap.size r ps ∧ BelX w.heap.size w w' :=
  CallsB.ofCalls plain_prog (fun v u τ d h => ⟨ownS_on h.1 τ d, h.2.on τ d⟩) fun τ => (toStringS_any v ps (On w τ 0) hv hl).mono fun _ _ h => by
    obtain ⟨r, rfl, h1, h2⟩ := h
    exact ⟨r, rfl, h1, BelX.ofOn h2⟩
theorem eqStringS_B (va vb : Value) (ps : List ByteArray) (w : World) (ha : IsStrs w va ps) (hb : IsStrs w vb ps) (hl : ps.length ≤ 9223372036854775807) :
    CallsB Tryz.prog 11 #[va, vb] w fun r w' => r = .bool true ∧ BelX w.heap.size w w' :=
  CallsB.ofBelow fun τ => (eqStringS_any va vb ps ps (On w τ 0) ha hb hl).mono fun _ _ h => by
    obtain ⟨rfl, h2⟩ := h
    exact ⟨_, rfl, by simp, h2⟩
theorem runSpec_B (v : Value) (ps : List ByteArray) (w : World) (hv : IsStrs w v ps) (hs : ∀ k, k < ps.length → (ps.getD k ByteArray.empty).size ≤ 1048575) :
    CallsB Tryz.prog 7 #[v] w fun r w' => r = strV (deskV ps) ∧ BelX w.heap.size w w' :=
  CallsB.ofBelow fun τ => (RunDesk_spec v ps (On w τ 0) hv hs).mono fun _ _ h => ⟨_, h.1, rfl, h.2⟩

set_option maxRecDepth 100000 in
set_option maxHeartbeats 1600000 in
theorem FnExactRunDesk_B (v : Value) (ps : List ByteArray) (w : World) (hv : IsStrs w v ps) (hlen : ps.length ≤ 9223372036854775807) (hb : ∀ k, k < ps.length → (ps.getD k ByteArray.empty).size ≤ 9223372036854775807) (hL : LaidW w) :
    CallsB Tryz.prog 4 #[v] w fun x w' => x = .bool true ∧ BelX w.heap.size w w' := by
  intro fs hfs
  rw [enter_bN _ Tryz.func4 rfl]
  simp only [Tryz.ntmps4, List.size_toArray, List.length_cons, List.length_nil, Nat.reduceAdd, Nat.reduceSub, Array.replicate_succ, Array.replicate_zero, List.push_toArray, List.append_toArray, List.nil_append, List.cons_append]
  have hn := PlainT.nil
  refine Reach.seq plain_prog hn hfs ?_
  refine Reach.region plain_prog (plain_code hn) hfs ?_
  simp only [List.size_toArray, List.length_cons, List.length_nil, Nat.zero_add, List.range, List.range.loop]
  refine Reach.val plain_prog (.bool false) (plain_code hn) hfs rfl rfl (by decide) (fun τ d => by simp [go_sem, execOp, Act.eval]) ?_
  walk_nrm
  refine Reach.regionEnd plain_prog (plain_code hn) hfs ?_
  refine Reach.seq plain_prog hn hfs ?_
  refine Reach.region plain_prog (plain_code hn) hfs ?_
  simp only [List.size_toArray, List.length_cons, List.length_nil, Nat.zero_add, List.range, List.range.loop]
  refine Reach.val plain_prog (.int .i64 1048576) (plain_code hn) hfs rfl rfl (by decide) (fun τ d => by simp [go_sem, execOp, Act.eval]) ?_
  walk_nrm
  refine Reach.regionEnd plain_prog (plain_code hn) hfs ?_
  refine Reach.seq plain_prog hn hfs ?_
  refine Reach.region plain_prog (plain_code hn) hfs ?_
  simp only [List.size_toArray, List.length_cons, List.length_nil, Nat.reduceAdd, Nat.zero_add, List.range, List.range.loop]
  refine Reach.val plain_prog (v) (plain_code hn) hfs rfl rfl (by decide) (fun τ d => by simp [go_sem, execOp, Act.eval]) ?_
  walk_nrm
  refine Reach.val plain_prog (.int .i64 1048576) (plain_code hn) hfs rfl rfl (by decide) (fun τ d => by simp [go_sem, execOp, Act.eval]) ?_
  walk_nrm
  refine Reach.call plain_prog (f := 9) (args := #[v, .int .i64 1048576]) (plain_code hn) hfs rfl rfl (by decide) (fun w => by simp [go_sem, execOp, Act.eval]) (szStringS_B v ps w hv hlen hb) ?_
  rintro _ w1 ⟨⟨x, rfl, hx⟩, b1⟩
  walk_nrm
  refine Reach.val plain_prog (.int .i64 x) (plain_code hn) hfs rfl rfl (by decide) (fun τ d => by simp [go_sem, execOp, Act.eval]) ?_
  walk_nrm
  refine Reach.regionEnd plain_prog (plain_code hn) hfs ?_
  refine Reach.seq plain_prog hn hfs ?_
  refine Reach.seq plain_prog (plain_code hn) hfs ?_
  by_cases hneg : x < 0
  · refine Reach.region plain_prog (plain_code (plain_code hn)) hfs ?_
    simp only [List.size_toArray, List.length_cons, List.length_nil, Nat.reduceAdd, Nat.zero_add, List.range, List.range.loop]
    refine Reach.val plain_prog (.int .i64 x) (plain_code (plain_code hn)) hfs rfl rfl (by decide) (fun τ d => by simp [go_sem, execOp, Act.eval]) ?_
    walk_nrm
    refine Reach.val plain_prog (.bool true) (plain_code (plain_code hn)) hfs rfl rfl (by decide) (fun τ d => by simp [go_sem, execOp, Act.eval, hneg]) ?_
    walk_nrm
    refine Reach.regionEnd plain_prog (plain_code (plain_code hn)) hfs ?_
    refine Reach.cond plain_prog true rfl (plain_code hn) hfs ?_
    simp only [if_true]
    refine Reach.seq plain_prog (plain_code hn) hfs ?_
    refine Reach.region plain_prog (plain_code (plain_code hn)) hfs ?_
    simp only [List.size_toArray, List.length_cons, List.length_nil, Nat.zero_add, List.range, List.range.loop]
    refine Reach.val plain_prog (.bool true) (plain_code (plain_code hn)) hfs rfl rfl (by decide) (fun τ d => by simp [go_sem, execOp, Act.eval]) ?_
    walk_nrm
    refine Reach.regionEnd plain_prog (plain_code (plain_code hn)) hfs ?_
    refine Reach.ret plain_prog (plain_code hn) hfs ?_
    exact Reach.here fun d => ⟨_, .bool true, rfl, rfl, ⟨rfl, rfl, rfl, _, Tryz.func4, by simp [results, Tryz.f4, Frame.at]⟩, plain_code (plain_code hn), rfl, b1.on _ _⟩
  obtain ⟨hl, hsz⟩ := hx.resolve_left hneg
  clear hx
  refine Reach.region plain_prog (plain_code (plain_code hn)) hfs ?_
  simp only [List.size_toArray, List.length_cons, List.length_nil, Nat.reduceAdd, Nat.zero_add, List.range, List.range.loop]
  refine Reach.val plain_prog (.int .i64 x) (plain_code (plain_code hn)) hfs rfl rfl (by decide) (fun τ d => by simp [go_sem, execOp, Act.eval]) ?_
  walk_nrm
  refine Reach.val plain_prog (.bool false) (plain_code (plain_code hn)) hfs rfl rfl (by decide) (fun τ d => by simp [go_sem, execOp, Act.eval, hneg]) ?_
  walk_nrm
  refine Reach.regionEnd plain_prog (plain_code (plain_code hn)) hfs ?_
  refine Reach.cond plain_prog false rfl (plain_code hn) hfs ?_
  simp only [Bool.false_eq_true, if_false]
  refine Reach.skip plain_prog (plain_code hn) hfs ?_
  refine Reach.seq plain_prog hn hfs ?_
  refine Reach.region plain_prog (plain_code hn) hfs ?_
  simp only [List.size_toArray, List.length_cons, List.length_nil, Nat.reduceAdd, Nat.zero_add, List.range, List.range.loop]
  refine Reach.val plain_prog (v) (plain_code hn) hfs rfl rfl (by decide) (fun τ d => by simp [go_sem, execOp, Act.eval]) ?_
  walk_nrm
  refine Reach.call plain_prog (f := 10) (args := #[v]) (plain_code hn) hfs rfl rfl (by decide) (fun w => by simp [go_sem, execOp, Act.eval]) (toStringS_B v ps w1 (strs_belX hv b1) hl) ?_
  rintro v2 w2 ⟨o2, hb2⟩
  walk_nrm
  have b2 : BelX w.heap.size w w2 := b1.trans (hb2.mono b1.size)
  refine Reach.call plain_prog (f := 7) (args := #[v2]) (plain_code hn) hfs rfl rfl (by decide) (fun w => by simp [go_sem, execOp, Act.eval]) (runSpec_B v2 ps w2 o2.strs hsz) ?_
  rintro _ w3 ⟨rfl, hb3⟩
  walk_nrm
  have b3 : BelX w.heap.size w w3 := b2.trans (hb3.mono b2.size)
  refine Reach.val plain_prog (strV (deskV ps)) (plain_code hn) hfs rfl rfl (by decide) (fun τ d => by simp [go_sem, execOp, Act.eval]) ?_
  walk_nrm
  refine Reach.regionEnd plain_prog (plain_code hn) hfs ?_
  refine Reach.seq plain_prog hn hfs ?_
  refine Reach.region plain_prog (plain_code hn) hfs ?_
  simp only [List.size_toArray, List.length_cons, List.length_nil, Nat.reduceAdd, Nat.zero_add, List.range, List.range.loop]
  refine Reach.val plain_prog (v) (plain_code hn) hfs rfl rfl (by decide) (fun τ d => by simp [go_sem, execOp, Act.eval]) ?_
  walk_nrm
  refine Reach.call plain_prog (f := 10) (args := #[v]) (plain_code hn) hfs rfl rfl (by decide) (fun w => by simp [go_sem, execOp, Act.eval]) (toStringS_B v ps w3 (strs_belX hv b3) hl) ?_
  rintro v4 w4 ⟨o4, hb4⟩
  walk_nrm
  have b4 : BelX w.heap.size w w4 := b3.trans (hb4.mono b3.size)
  refine Reach.val plain_prog (v4) (plain_code hn) hfs rfl rfl (by decide) (fun τ d => by simp [go_sem, execOp, Act.eval]) ?_
  walk_nrm
  refine Reach.regionEnd plain_prog (plain_code hn) hfs ?_
  refine Reach.seq plain_prog hn hfs ?_
  refine Reach.region plain_prog (plain_code hn) hfs ?_
  simp only [List.size_toArray, List.length_cons, List.length_nil, Nat.reduceAdd, Nat.zero_add, List.range, List.range.loop]
  refine Reach.val plain_prog (v4) (plain_code hn) hfs rfl rfl (by decide) (fun τ d => by simp [go_sem, execOp, Act.eval]) ?_
  walk_nrm
  refine Reach.call plain_prog (f := 6) (args := #[v4]) (plain_code hn) hfs rfl rfl (by decide) (fun w => by simp [go_sem, execOp, Act.eval]) (RunDesk_B v4 ps w4 o4.strs hsz hlen (hL.belX b4)) ?_
  rintro _ w5 ⟨rfl, hb5⟩
  walk_nrm
  have b5 : BelX w.heap.size w w5 := b4.trans (hb5.mono b4.size)
  have o5 := ownS_belX o4 hb5
  refine Reach.val plain_prog (strV (deskV ps)) (plain_code hn) hfs rfl rfl (by decide) (fun τ d => by simp [go_sem, execOp, Act.eval]) ?_
  walk_nrm
  refine Reach.regionEnd plain_prog (plain_code hn) hfs ?_
  refine Reach.seq plain_prog hn hfs ?_
  refine Reach.seq plain_prog (plain_code hn) hfs ?_
  refine Reach.region plain_prog (plain_code (plain_code hn)) hfs ?_
  simp only [List.size_toArray, List.length_cons, List.length_nil, Nat.reduceAdd, Nat.zero_add, List.range, List.range.loop]
  refine Reach.val plain_prog (strV (deskV ps)) (plain_code (plain_code hn)) hfs rfl rfl (by decide) (fun τ d => by simp [go_sem, execOp, Act.eval]) ?_
  walk_nrm
  refine Reach.val plain_prog (strV (deskV ps)) (plain_code (plain_code hn)) hfs rfl rfl (by decide) (fun τ d => by simp [go_sem, execOp, Act.eval]) ?_
  walk_nrm
  refine Reach.val plain_prog (.bool false) (plain_code (plain_code hn)) hfs rfl rfl (by decide) (fun τ d => by simp [go_sem, execOp, Act.eval]) ?_
  walk_nrm
  refine Reach.regionEnd plain_prog (plain_code (plain_code hn)) hfs ?_
  refine Reach.cond plain_prog false rfl (plain_code hn) hfs ?_
  simp only [Bool.false_eq_true, if_false]
  refine Reach.skip plain_prog (plain_code hn) hfs ?_
  refine Reach.seq plain_prog hn hfs ?_
  refine Reach.seq plain_prog (plain_code hn) hfs ?_
  refine Reach.region plain_prog (plain_code (plain_code hn)) hfs ?_
  simp only [List.size_toArray, List.length_cons, List.length_nil, Nat.reduceAdd, Nat.zero_add, List.range, List.range.loop]
  refine Reach.val plain_prog (v4) (plain_code (plain_code hn)) hfs rfl rfl (by decide) (fun τ d => by simp [go_sem, execOp, Act.eval]) ?_
  walk_nrm
  refine Reach.val plain_prog (v) (plain_code (plain_code hn)) hfs rfl rfl (by decide) (fun τ d => by simp [go_sem, execOp, Act.eval]) ?_
  walk_nrm
  refine Reach.call plain_prog (f := 10) (args := #[v]) (plain_code (plain_code hn)) hfs rfl rfl (by decide) (fun w => by simp [go_sem, execOp, Act.eval]) (toStringS_B v ps w5 (strs_belX hv b5) hl) ?_
  rintro v6 w6 ⟨o6, hb6⟩
  walk_nrm
  have b6 : BelX w.heap.size w w6 := b5.trans (hb6.mono b5.size)
  have o56 := ownS_belX o5 hb6
  refine Reach.call plain_prog (f := 11) (args := #[v4, v6]) (plain_code (plain_code hn)) hfs rfl rfl (by decide) (fun w => by simp [go_sem, execOp, Act.eval]) (eqStringS_B v4 v6 ps w6 o56.strs o6.strs hlen) ?_
  rintro _ w7 ⟨rfl, hb7⟩
  walk_nrm
  have b7 : BelX w.heap.size w w7 := b6.trans (hb7.mono b6.size)
  refine Reach.val plain_prog (.bool false) (plain_code (plain_code hn)) hfs rfl rfl (by decide) (fun τ d => by simp [go_sem, execOp, Act.eval]) ?_
  walk_nrm
  refine Reach.regionEnd plain_prog (plain_code (plain_code hn)) hfs ?_
  refine Reach.cond plain_prog false rfl (plain_code hn) hfs ?_
  simp only [Bool.false_eq_true, if_false]
  refine Reach.skip plain_prog (plain_code hn) hfs ?_
  refine Reach.seq plain_prog hn hfs ?_
  refine Reach.region plain_prog (plain_code hn) hfs ?_
  simp only [List.size_toArray, List.length_cons, List.length_nil, Nat.zero_add, List.range, List.range.loop]
  refine Reach.val plain_prog (.bool true) (plain_code hn) hfs rfl rfl (by decide) (fun τ d => by simp [go_sem, execOp, Act.eval]) ?_
  walk_nrm
  refine Reach.regionEnd plain_prog (plain_code hn) hfs ?_
  refine Reach.ret plain_prog hn hfs ?_
  exact Reach.here fun d => ⟨_, .bool true, rfl, rfl, ⟨rfl, rfl, rfl, _, Tryz.func4, by simp [results, Tryz.f4, Frame.at]⟩, plain_code hn, rfl, b7.on _ _⟩
end Go.Proofs.YtpenbkfchgeafaaGreatDoor

namespace Go.Proofs.YtpenbkfchgeafaaGreatDoor
open Go Go.Conc Go.RowKit Go.Lib

theorem drawDesk_B (a : Option Addr) (n cap : Nat) (w : World) (h : IsBytes w a n) (hc : n ≤ cap) :
    CallsB Tryz.prog 5 #[.slice a n cap] w fun v w' => (∃ ps, OwnStr w' w.heap.size v ps ∧ ps.length ≤ 5 ∧ Lines ps) ∧ BelX w.heap.size w w' :=
  CallsB.ofCalls plain_prog (fun v u τ d h => ⟨h.1.imp fun ps x => ⟨ownS_on x.1 τ d, x.2⟩, h.2.on τ d⟩) fun τ => (DrawRunDesk_any a n cap (On w τ 0) h hc).mono fun e w' h => by
    obtain ⟨v, ps, rfl, h1, h2, h3, h4⟩ := h
    exact ⟨v, rfl, ⟨ps, h1, h2, h3⟩, BelX.ofOn h4⟩
theorem newlines_B (s : ByteArray) (w : World) (hs : s.size ≤ 1048576) :
    CallsB Tryz.prog 8 #[.string s] w fun r w' => r = .int .i64 (s.data.toList.count 10 : Nat) ∧ BelX w.heap.size w w' :=
  CallsB.ofBelow fun τ => (newlines_any s (On w τ 0) hs).mono fun _ _ h => by
    obtain ⟨rfl, rfl⟩ := h
    exact ⟨_, rfl, rfl, Below.refl _ _⟩
theorem getD_memS {l : List ByteArray} {j : Nat} (h : j < l.length) : l.getD j ByteArray.empty ∈ l := by
  rw [List.getD_eq_getElem?_getD, List.getElem?_eq_getElem h]
  exact List.getElem_mem h
theorem lines_sizes {ps : List ByteArray} (h : Lines ps) (i : Nat) : ∀ k, k < (ps.take i).length → ((ps.take i).getD k ByteArray.empty).size ≤ 1048575 := fun k hk => by
  have := h _ (List.mem_of_mem_take (getD_memS hk))
  omega
/-- The first lines of a slice of lines. -/
theorem strs_take {w : World} {a : Option Addr} {n cap : Nat} {ps : List ByteArray} (h : IsStrs w (.slice a n cap) ps) {k : Nat} (hk : k ≤ ps.length) : IsStrs w (.slice a k cap) (ps.take k) := by
  obtain ⟨a', cap', e, hc⟩ := h
  simp only [Value.slice.injEq] at e
  obtain ⟨rfl, _, _⟩ := e
  have hl : (ps.take k).length = k := by rw [List.length_take]; omega
  refine ⟨a, cap, by rw [hl], fun j hj => ?_⟩
  rw [hl] at hj
  obtain ⟨b, off, e1, e2⟩ := hc j (by omega)
  refine ⟨b, off, e1, e2.trans ?_⟩
  rw [List.getD_eq_getElem?_getD, List.getD_eq_getElem?_getD, List.getElem?_take_of_lt hj]
theorem strs_cap {w : World} {B : Nat} {v : Value} {ps : List ByteArray} (h : OwnStr w B v ps) : ∀ a n c, v = .slice a n c → n ≤ c := by
  rintro a n c rfl
  rcases h.2 with ⟨h0, _⟩ | ⟨g, c', cur, hv, _, _, hl, _⟩
  · simp only [Value.slice.injEq] at h0
    omega
  · simp only [Value.slice.injEq] at hv
    omega
/-- Bytes as a string. -/
def deskT (l : List UInt8) : ByteArray := ⟨l.toArray⟩
theorem deskT_size (l : List UInt8) : (deskT l).size = l.length := by simp [deskT, ByteArray.size]
theorem deskT_none {ps : List ByteArray} : deskT (linesV ps) = ⟨#[]⟩ ↔ ps = [] := by
  rw [← linesV_nil]
  constructor
  · intro h
    have := congrArg (fun b : ByteArray => b.data.toList) h
    simpa [deskT] using this
  · intro h
    rw [h]
    rfl
theorem deskT_first (ps : List ByteArray) (k : Nat) : (deskT (linesV ps)).extract 0 (deskT (linesV (ps.take k))).size = deskT (linesV (ps.take k)) := by
  rw [deskT_size]
  apply ByteArray.ext
  rw [ByteArray.data_extract]
  apply Array.toList_inj.1
  have := linesV_prefix ps k
  simpa [deskT] using this
theorem deskV_few {ps : List ByteArray} (h : ps.length ≤ 5) : deskV ps = linesV ps := if_pos (by omega)
theorem implText_B (v : Value) (ps : List ByteArray) (w : World) (hv : IsStrs w v ps) (hs : ∀ k, k < ps.length → (ps.getD k ByteArray.empty).size ≤ 1048575) (hl : ps.length ≤ 5) (hL : LaidW w) :
    CallsB Tryz.prog 6 #[v] w fun r w' => r = .string (deskT (linesV ps)) ∧ BelX w.heap.size w w' := by
  have h := RunDesk_B v ps w hv hs (by omega) hL
  rw [deskV_few hl] at h
  exact h
theorem specText_B (v : Value) (ps : List ByteArray) (w : World) (hv : IsStrs w v ps) (hs : ∀ k, k < ps.length → (ps.getD k ByteArray.empty).size ≤ 1048575) (hl : ps.length ≤ 5) :
    CallsB Tryz.prog 7 #[v] w fun r w' => r = .string (deskT (linesV ps)) ∧ BelX w.heap.size w w' := by
  have h := runSpec_B v ps w hv hs
  rw [deskV_few hl] at h
  exact h
theorem countText_B (ps : List ByteArray) (w : World) (hl : ps.length ≤ 5) :
    CallsB Tryz.prog 8 #[.string (deskT (linesV ps))] w fun r w' => r = .int .i64 (ps.length : Int) ∧ BelX w.heap.size w w' := by
  have hz := linesV_len ps
  have h := newlines_B (deskT (linesV ps)) w (by rw [deskT_size]; omega)
  rw [show (deskT (linesV ps)).data.toList = linesV ps from rfl, linesV_count] at h
  exact h

set_option maxRecDepth 100000 in
set_option maxHeartbeats 8000000 in
theorem FnRunDesk_B (a : Option Addr) (n cap : Nat) (w : World) (h : IsBytes w a n) (hc : n ≤ cap) (hL : LaidW w) :
    CallsB Tryz.prog 3 #[.slice a n cap] w fun x w' => x = .bool true ∧ BelX w.heap.size w w' := by
  intro fs hfs
  rw [enter_bN _ Tryz.func3 rfl]
  simp only [Tryz.ntmps3, List.size_toArray, List.length_cons, List.length_nil, Nat.reduceAdd, Nat.reduceSub, Array.replicate_succ, Array.replicate_zero, List.push_toArray, List.append_toArray, List.nil_append, List.cons_append]
  have hn := PlainT.nil
  refine Reach.seq plain_prog hn hfs ?_
  refine Reach.region plain_prog (plain_code hn) hfs ?_
  simp only [List.size_toArray, List.length_cons, List.length_nil, Nat.zero_add, List.range, List.range.loop]
  refine Reach.val plain_prog (.bool false) (plain_code hn) hfs rfl rfl (by decide) (fun τ d => by simp [go_sem, execOp, Act.eval]) ?_
  walk_nrm
  refine Reach.regionEnd plain_prog (plain_code hn) hfs ?_
  refine Reach.seq plain_prog hn hfs ?_
  refine Reach.seq plain_prog (plain_code hn) hfs ?_
  by_cases hbig : (1048576 : Int) < (n : Int)
  · refine Reach.region plain_prog (plain_code (plain_code hn)) hfs ?_
    simp only [List.size_toArray, List.length_cons, List.length_nil, Nat.reduceAdd, Nat.zero_add, List.range, List.range.loop]
    refine Reach.val plain_prog (.slice a n cap) (plain_code (plain_code hn)) hfs rfl rfl (by decide) (fun τ d => by simp [go_sem, execOp, Act.eval]) ?_
    walk_nrm
    refine Reach.val plain_prog (.int .i64 (n : Int)) (plain_code (plain_code hn)) hfs rfl rfl (by decide) (fun τ d => by simp [go_sem, execOp, Act.eval]) ?_
    walk_nrm
    refine Reach.val plain_prog (.bool true) (plain_code (plain_code hn)) hfs rfl rfl (by decide) (fun τ d => by simp [go_sem, execOp, Act.eval, hbig]) ?_
    walk_nrm
    refine Reach.regionEnd plain_prog (plain_code (plain_code hn)) hfs ?_
    refine Reach.cond plain_prog true rfl (plain_code hn) hfs ?_
    simp only [if_true]
    refine Reach.seq plain_prog (plain_code hn) hfs ?_
    refine Reach.region plain_prog (plain_code (plain_code hn)) hfs ?_
    simp only [List.size_toArray, List.length_cons, List.length_nil, Nat.zero_add, List.range, List.range.loop]
    refine Reach.val plain_prog (.bool true) (plain_code (plain_code hn)) hfs rfl rfl (by decide) (fun τ d => by simp [go_sem, execOp, Act.eval]) ?_
    walk_nrm
    refine Reach.regionEnd plain_prog (plain_code (plain_code hn)) hfs ?_
    refine Reach.ret plain_prog (plain_code hn) hfs ?_
    exact Reach.here fun d => ⟨_, .bool true, rfl, rfl, ⟨rfl, rfl, rfl, _, Tryz.func3, by simp [results, Tryz.f3, Frame.at]⟩, plain_code (plain_code hn), rfl, (BelX.refl _ _).on _ _⟩
  refine Reach.region plain_prog (plain_code (plain_code hn)) hfs ?_
  simp only [List.size_toArray, List.length_cons, List.length_nil, Nat.reduceAdd, Nat.zero_add, List.range, List.range.loop]
  refine Reach.val plain_prog (.slice a n cap) (plain_code (plain_code hn)) hfs rfl rfl (by decide) (fun τ d => by simp [go_sem, execOp, Act.eval]) ?_
  walk_nrm
  refine Reach.val plain_prog (.int .i64 (n : Int)) (plain_code (plain_code hn)) hfs rfl rfl (by decide) (fun τ d => by simp [go_sem, execOp, Act.eval]) ?_
  walk_nrm
  refine Reach.val plain_prog (.bool false) (plain_code (plain_code hn)) hfs rfl rfl (by decide) (fun τ d => by simp [go_sem, execOp, Act.eval, hbig]) ?_
  walk_nrm
  refine Reach.regionEnd plain_prog (plain_code (plain_code hn)) hfs ?_
  refine Reach.cond plain_prog false rfl (plain_code hn) hfs ?_
  simp only [Bool.false_eq_true, if_false]
  refine Reach.skip plain_prog (plain_code hn) hfs ?_
  refine Reach.seq plain_prog hn hfs ?_
  refine Reach.region plain_prog (plain_code hn) hfs ?_
  simp only [List.size_toArray, List.length_cons, List.length_nil, Nat.reduceAdd, Nat.zero_add, List.range, List.range.loop]
  refine Reach.val plain_prog (.slice a n cap) (plain_code hn) hfs rfl rfl (by decide) (fun τ d => by simp [go_sem, execOp, Act.eval]) ?_
  walk_nrm
  refine Reach.call plain_prog (f := 5) (args := #[.slice a n cap]) (plain_code hn) hfs rfl rfl (by decide) (fun w => by simp [go_sem, execOp, Act.eval]) (drawDesk_B a n cap w h hc) ?_
  rintro v w1 ⟨⟨ps, o1, hl5, hls⟩, b1⟩
  walk_nrm
  refine Reach.val plain_prog (v) (plain_code hn) hfs rfl rfl (by decide) (fun τ d => by simp [go_sem, execOp, Act.eval]) ?_
  walk_nrm
  refine Reach.regionEnd plain_prog (plain_code hn) hfs ?_
  have hsz : ∀ k, k < ps.length → (ps.getD k ByteArray.empty).size ≤ 1048575 := by
    have := lines_sizes hls ps.length
    rwa [List.take_length] at this
  refine Reach.seq plain_prog hn hfs ?_
  refine Reach.region plain_prog (plain_code hn) hfs ?_
  simp only [List.size_toArray, List.length_cons, List.length_nil, Nat.reduceAdd, Nat.zero_add, List.range, List.range.loop]
  refine Reach.val plain_prog (v) (plain_code hn) hfs rfl rfl (by decide) (fun τ d => by simp [go_sem, execOp, Act.eval]) ?_
  walk_nrm
  refine Reach.call plain_prog (f := 6) (args := #[v]) (plain_code hn) hfs rfl rfl (by decide) (fun w => by simp [go_sem, execOp, Act.eval]) (implText_B v ps w1 o1.strs hsz hl5 (hL.belX b1)) ?_
  rintro _ w2 ⟨rfl, hb2⟩
  walk_nrm
  have b2 : BelX w.heap.size w w2 := b1.trans (hb2.mono b1.size)
  have o2 := ownS_belX o1 hb2
  refine Reach.val plain_prog (.string (deskT (linesV ps))) (plain_code hn) hfs rfl rfl (by decide) (fun τ d => by simp [go_sem, execOp, Act.eval]) ?_
  walk_nrm
  refine Reach.regionEnd plain_prog (plain_code hn) hfs ?_
  refine Reach.seq plain_prog hn hfs ?_
  refine Reach.seq plain_prog (plain_code hn) hfs ?_
  by_cases h0 : ps = []
  · have hx : deskT (linesV ps) = ⟨#[]⟩ := deskT_none.2 h0
    refine Reach.region plain_prog (plain_code (plain_code hn)) hfs ?_
    simp only [List.size_toArray, List.length_cons, List.length_nil, Nat.reduceAdd, Nat.zero_add, List.range, List.range.loop]
    refine Reach.val plain_prog (.string (deskT (linesV ps))) (plain_code (plain_code hn)) hfs rfl rfl (by decide) (fun τ d => by simp [go_sem, execOp, Act.eval]) ?_
    walk_nrm
    refine Reach.val plain_prog (v) (plain_code (plain_code hn)) hfs rfl rfl (by decide) (fun τ d => by simp [go_sem, execOp, Act.eval]) ?_
    walk_nrm
    refine Reach.call plain_prog (f := 7) (args := #[v]) (plain_code (plain_code hn)) hfs rfl rfl (by decide) (fun w => by simp [go_sem, execOp, Act.eval]) (specText_B v ps w2 o2.strs hsz hl5) ?_
    rintro _ w3 ⟨rfl, hb3⟩
    walk_nrm
    have b3 : BelX w.heap.size w w3 := b2.trans (hb3.mono b2.size)
    have o3 := ownS_belX o2 hb3
    refine Reach.val plain_prog (.bool false) (plain_code (plain_code hn)) hfs rfl rfl (by decide) (fun τ d => by simp [go_sem, execOp, Act.eval]) ?_
    walk_nrm
    refine Reach.val plain_prog (.bool false) (plain_code (plain_code hn)) hfs rfl rfl (by decide) (fun τ d => by simp [go_sem, execOp, Act.eval]) ?_
    walk_nrm
    refine Reach.val plain_prog (.string (deskT (linesV ps))) (plain_code (plain_code hn)) hfs rfl rfl (by decide) (fun τ d => by simp [go_sem, execOp, Act.eval]) ?_
    walk_nrm
    refine Reach.val plain_prog (.bool true) (plain_code (plain_code hn)) hfs rfl rfl (by decide) (fun τ d => by simp [go_sem, execOp, Act.eval, hx]) ?_
    walk_nrm
    refine Reach.val plain_prog (.bool true) (plain_code (plain_code hn)) hfs rfl rfl (by decide) (fun τ d => by simp [go_sem, execOp, Act.eval]) ?_
    walk_nrm
    refine Reach.regionEnd plain_prog (plain_code (plain_code hn)) hfs ?_
    refine Reach.cond plain_prog true rfl (plain_code hn) hfs ?_
    simp only [if_true]
    refine Reach.seq plain_prog (plain_code hn) hfs ?_
    refine Reach.region plain_prog (plain_code (plain_code hn)) hfs ?_
    simp only [List.size_toArray, List.length_cons, List.length_nil, Nat.reduceAdd, Nat.zero_add, List.range, List.range.loop]
    refine Reach.val plain_prog (.string (deskT (linesV ps))) (plain_code (plain_code hn)) hfs rfl rfl (by decide) (fun τ d => by simp [go_sem, execOp, Act.eval]) ?_
    walk_nrm
    refine Reach.val plain_prog (v) (plain_code (plain_code hn)) hfs rfl rfl (by decide) (fun τ d => by simp [go_sem, execOp, Act.eval]) ?_
    walk_nrm
    refine Reach.call plain_prog (f := 7) (args := #[v]) (plain_code (plain_code hn)) hfs rfl rfl (by decide) (fun w => by simp [go_sem, execOp, Act.eval]) (specText_B v ps w3 o3.strs hsz hl5) ?_
    rintro _ w4 ⟨rfl, hb4⟩
    walk_nrm
    have b4 : BelX w.heap.size w w4 := b3.trans (hb4.mono b3.size)
    have o4 := ownS_belX o3 hb4
    refine Reach.val plain_prog (.bool true) (plain_code (plain_code hn)) hfs rfl rfl (by decide) (fun τ d => by simp [go_sem, execOp, Act.eval]) ?_
    walk_nrm
    refine Reach.val plain_prog (.bool true) (plain_code (plain_code hn)) hfs rfl rfl (by decide) (fun τ d => by simp [go_sem, execOp, Act.eval]) ?_
    walk_nrm
    refine Reach.regionEnd plain_prog (plain_code (plain_code hn)) hfs ?_
    refine Reach.ret plain_prog (plain_code hn) hfs ?_
    exact Reach.here fun d => ⟨_, .bool true, rfl, rfl, ⟨rfl, rfl, rfl, _, Tryz.func3, by simp [results, Tryz.f3, Frame.at]⟩, plain_code (plain_code hn), rfl, b4.on _ _⟩
  have hx : ¬ (deskT (linesV ps)).toList = [] := by
    rw [ByteArray.toList_eq]
    exact fun e => h0 (linesV_nil.1 e)
  refine Reach.region plain_prog (plain_code (plain_code hn)) hfs ?_
  simp only [List.size_toArray, List.length_cons, List.length_nil, Nat.reduceAdd, Nat.zero_add, List.range, List.range.loop]
  refine Reach.val plain_prog (.string (deskT (linesV ps))) (plain_code (plain_code hn)) hfs rfl rfl (by decide) (fun τ d => by simp [go_sem, execOp, Act.eval]) ?_
  walk_nrm
  refine Reach.val plain_prog (v) (plain_code (plain_code hn)) hfs rfl rfl (by decide) (fun τ d => by simp [go_sem, execOp, Act.eval]) ?_
  walk_nrm
  refine Reach.call plain_prog (f := 7) (args := #[v]) (plain_code (plain_code hn)) hfs rfl rfl (by decide) (fun w => by simp [go_sem, execOp, Act.eval]) (specText_B v ps w2 o2.strs hsz hl5) ?_
  rintro _ w3 ⟨rfl, hb3⟩
  walk_nrm
  have b3 : BelX w.heap.size w w3 := b2.trans (hb3.mono b2.size)
  have o3 := ownS_belX o2 hb3
  refine Reach.val plain_prog (.bool false) (plain_code (plain_code hn)) hfs rfl rfl (by decide) (fun τ d => by simp [go_sem, execOp, Act.eval]) ?_
  walk_nrm
  refine Reach.val plain_prog (.bool false) (plain_code (plain_code hn)) hfs rfl rfl (by decide) (fun τ d => by simp [go_sem, execOp, Act.eval]) ?_
  walk_nrm
  refine Reach.val plain_prog (.string (deskT (linesV ps))) (plain_code (plain_code hn)) hfs rfl rfl (by decide) (fun τ d => by simp [go_sem, execOp, Act.eval]) ?_
  walk_nrm
  refine Reach.val plain_prog (.bool false) (plain_code (plain_code hn)) hfs rfl rfl (by decide) (fun τ d => by simp [go_sem, execOp, Act.eval, hx]) ?_
  walk_nrm
  refine Reach.val plain_prog (.bool false) (plain_code (plain_code hn)) hfs rfl rfl (by decide) (fun τ d => by simp [go_sem, execOp, Act.eval]) ?_
  walk_nrm
  refine Reach.regionEnd plain_prog (plain_code (plain_code hn)) hfs ?_
  refine Reach.cond plain_prog false rfl (plain_code hn) hfs ?_
  simp only [Bool.false_eq_true, if_false]
  refine Reach.skip plain_prog (plain_code hn) hfs ?_
  have hpos : 0 < ps.length := List.length_pos_iff.2 h0
  obtain ⟨a3, cap3, rfl, hc3⟩ := o3.strs
  obtain ⟨b, off, rfl, _⟩ := hc3 0 hpos
  clear hc3
  have hcap := strs_cap o3 _ _ _ rfl
  clear o1 o2 b1 b2 hb2 hb3
  refine Reach.seq plain_prog hn hfs ?_
  refine Reach.seq plain_prog (plain_code hn) hfs ?_
  refine Reach.region plain_prog (plain_code (plain_code hn)) hfs ?_
  simp only [List.size_toArray, List.length_cons, List.length_nil, Nat.zero_add, List.range, List.range.loop]
  refine Reach.val plain_prog (.int .i64 0) (plain_code (plain_code hn)) hfs rfl rfl (by decide) (fun τ d => by simp [go_sem, execOp, Act.eval]) ?_
  walk_nrm
  refine Reach.regionEnd plain_prog (plain_code (plain_code hn)) hfs ?_
  refine Reach.block plain_prog (plain_code hn) hfs ?_
  refine Reach.loop plain_prog (n := ps.length + 1) (fun m a' w' => ∃ i : Nat, i ≤ ps.length + 1 ∧ m = ps.length + 1 - i ∧ (∃ x6 x26 x27 x28 x29 x30 x31 x32 x33 x34 x35 x36 x37 x38 x39 x40 x41 x42 x43 x44 x45 x46 x47 x48, a' = ⟨#[(.slice a n cap), undef, (.bool false), (.slice (some ⟨b, off, none⟩) ps.length cap3), (.string (deskT (linesV ps))), (.int .i64 (i : Int)), x6, (.slice a n cap), (.int .i64 (n : Int)), (.bool false), (.slice a n cap), (.slice (some ⟨b, off, none⟩) ps.length cap3), (.slice (some ⟨b, off, none⟩) ps.length cap3), (.string (deskT (linesV ps))), (.string (deskT (linesV ps))), (.slice (some ⟨b, off, none⟩) ps.length cap3), (.string (deskT (linesV ps))), (.bool false), (.bool false), (.string (deskT (linesV ps))), (.bool false), (.bool false), undef, undef, undef, undef, x26, x27, x28, x29, x30, x31, x32, x33, x34, x35, x36, x37, x38, x39, x40, x41, x42, x43, x44, x45, x46, x47, x48, undef, undef, undef, undef, undef], []⟩) ∧ BelX w.heap.size w w' ∧ OwnStr w' w.heap.size (.slice (some ⟨b, off, none⟩) ps.length cap3) ps) (plain_item (x := .inBlock 0) trivial (plain_code hn)) hfs ?_ ⟨0, Nat.zero_le _, rfl, ⟨_, _, _, _, _, _, _, _, _, _, _, _, _, _, _, _, _, _, _, _, _, _, _, _, rfl⟩, b3, o3⟩
  rintro m _ w5 ⟨i, hi, rfl, ⟨x6, x26, x27, x28, x29, x30, x31, x32, x33, x34, x35, x36, x37, x38, x39, x40, x41, x42, x43, x44, x45, x46, x47, x48, rfl⟩, b5, o5⟩ hk ih
  refine Reach.seq plain_prog hk hfs ?_
  refine Reach.seq plain_prog (plain_code hk) hfs ?_
  by_cases hlt : (i : Int) ≤ (ps.length : Int)
  · refine Reach.region plain_prog (plain_code (plain_code hk)) hfs ?_
    simp only [List.size_toArray, List.length_cons, List.length_nil, Nat.reduceAdd, Nat.zero_add, List.range, List.range.loop]
    refine Reach.val plain_prog (.int .i64 (i : Int)) (plain_code (plain_code hk)) hfs rfl rfl (by decide) (fun τ d => by simp [go_sem, execOp, Act.eval]) ?_
    walk_nrm
    refine Reach.val plain_prog (.slice (some ⟨b, off, none⟩) ps.length cap3) (plain_code (plain_code hk)) hfs rfl rfl (by decide) (fun τ d => by simp [go_sem, execOp, Act.eval]) ?_
    walk_nrm
    refine Reach.val plain_prog (.int .i64 (ps.length : Int)) (plain_code (plain_code hk)) hfs rfl rfl (by decide) (fun τ d => by simp [go_sem, execOp, Act.eval]) ?_
    walk_nrm
    refine Reach.val plain_prog (.bool true) (plain_code (plain_code hk)) hfs rfl rfl (by decide) (fun τ d => by simp [go_sem, execOp, Act.eval, hlt]) ?_
    walk_nrm
    refine Reach.regionEnd plain_prog (plain_code (plain_code hk)) hfs ?_
    refine Reach.cond plain_prog true rfl (plain_code hk) hfs ?_
    simp only [if_true]
    refine Reach.skip plain_prog (plain_code hk) hfs ?_
    refine Reach.seq plain_prog hk hfs ?_
    refine Reach.block plain_prog (plain_code hk) hfs ?_
    have hile : i ≤ ps.length := by omega
    have hic : (i : Int) ≤ (cap3 : Int) := by omega
    have hi0 : (0 : Int) ≤ (i : Int) := by omega
    have hcz : ¬ cap3 = 0 := by omega
    refine Reach.seq plain_prog (plain_item (x := .inBlock 1) trivial (plain_code hk)) hfs ?_
    refine Reach.region plain_prog (plain_code (plain_item (x := .inBlock 1) trivial (plain_code hk))) hfs ?_
    simp only [List.size_toArray, List.length_cons, List.length_nil, Nat.reduceAdd, Nat.zero_add, List.range, List.range.loop]
    refine Reach.val plain_prog (.slice (some ⟨b, off, none⟩) ps.length cap3) (plain_code (plain_item (x := .inBlock 1) trivial (plain_code hk))) hfs rfl rfl (by decide) (fun τ d => by simp [go_sem, execOp, Act.eval]) ?_
    walk_nrm
    refine Reach.val plain_prog (.int .i64 (i : Int)) (plain_code (plain_item (x := .inBlock 1) trivial (plain_code hk))) hfs rfl rfl (by decide) (fun τ d => by simp [go_sem, execOp, Act.eval]) ?_
    walk_nrm
    refine Reach.val plain_prog (.slice (some ⟨b, off, none⟩) i cap3) (plain_code (plain_item (x := .inBlock 1) trivial (plain_code hk))) hfs rfl rfl (by decide) (fun τ d => by simp [go_sem, execOp, Act.eval, hic, hi0, hcz]) ?_
    walk_nrm
    refine Reach.call plain_prog (f := 6) (args := #[.slice (some ⟨b, off, none⟩) i cap3]) (plain_code (plain_item (x := .inBlock 1) trivial (plain_code hk))) hfs rfl rfl (by decide) (fun w => by simp [go_sem, execOp, Act.eval]) (implText_B _ (ps.take i) w5 (strs_take o5.strs hile) (lines_sizes hls i) (by rw [List.length_take]; omega) (hL.belX b5)) ?_
    rintro _ w6 ⟨rfl, hb6⟩
    walk_nrm
    have b6 : BelX w.heap.size w w6 := b5.trans (hb6.mono b5.size)
    have o6 := ownS_belX o5 hb6
    refine Reach.val plain_prog (.string (deskT (linesV (ps.take i)))) (plain_code (plain_item (x := .inBlock 1) trivial (plain_code hk))) hfs rfl rfl (by decide) (fun τ d => by simp [go_sem, execOp, Act.eval]) ?_
    walk_nrm
    refine Reach.regionEnd plain_prog (plain_code (plain_item (x := .inBlock 1) trivial (plain_code hk))) hfs ?_
    refine Reach.seq plain_prog (plain_item (x := .inBlock 1) trivial (plain_code hk)) hfs ?_
    have hle1 : ¬ ((deskT (linesV ps)).size : Int) < ((deskT (linesV (ps.take i))).size : Int) := by have := linesV_le ps i; rw [deskT_size, deskT_size]; omega
    have hle2 : ((deskT (linesV (ps.take i))).size : Int) ≤ ((deskT (linesV ps)).size : Int) := by omega
    have hle3 : (0 : Int) ≤ ((deskT (linesV (ps.take i))).size : Int) := by omega
    have hpre := deskT_first ps i
    refine Reach.region plain_prog (plain_code (plain_item (x := .inBlock 1) trivial (plain_code hk))) hfs ?_
    simp only [List.size_toArray, List.length_cons, List.length_nil, Nat.reduceAdd, Nat.zero_add, List.range, List.range.loop]
    refine Reach.val plain_prog (.string (deskT (linesV (ps.take i)))) (plain_code (plain_item (x := .inBlock 1) trivial (plain_code hk))) hfs rfl rfl (by decide) (fun τ d => by simp [go_sem, execOp, Act.eval]) ?_
    walk_nrm
    refine Reach.val plain_prog (.int .i64 ((deskT (linesV (ps.take i))).size : Int)) (plain_code (plain_item (x := .inBlock 1) trivial (plain_code hk))) hfs rfl rfl (by decide) (fun τ d => by simp [go_sem, execOp, Act.eval]) ?_
    walk_nrm
    refine Reach.val plain_prog (.string (deskT (linesV ps))) (plain_code (plain_item (x := .inBlock 1) trivial (plain_code hk))) hfs rfl rfl (by decide) (fun τ d => by simp [go_sem, execOp, Act.eval]) ?_
    walk_nrm
    refine Reach.val plain_prog (.int .i64 ((deskT (linesV ps)).size : Int)) (plain_code (plain_item (x := .inBlock 1) trivial (plain_code hk))) hfs rfl rfl (by decide) (fun τ d => by simp [go_sem, execOp, Act.eval]) ?_
    walk_nrm
    refine Reach.val plain_prog (.bool false) (plain_code (plain_item (x := .inBlock 1) trivial (plain_code hk))) hfs rfl rfl (by decide) (fun τ d => by simp [go_sem, execOp, Act.eval, hle1]) ?_
    walk_nrm
    refine Reach.val plain_prog (.bool false) (plain_code (plain_item (x := .inBlock 1) trivial (plain_code hk))) hfs rfl rfl (by decide) (fun τ d => by simp [go_sem, execOp, Act.eval]) ?_
    walk_nrm
    refine Reach.val plain_prog (.string (deskT (linesV ps))) (plain_code (plain_item (x := .inBlock 1) trivial (plain_code hk))) hfs rfl rfl (by decide) (fun τ d => by simp [go_sem, execOp, Act.eval]) ?_
    walk_nrm
    refine Reach.val plain_prog (.string (deskT (linesV (ps.take i)))) (plain_code (plain_item (x := .inBlock 1) trivial (plain_code hk))) hfs rfl rfl (by decide) (fun τ d => by simp [go_sem, execOp, Act.eval]) ?_
    walk_nrm
    refine Reach.val plain_prog (.int .i64 ((deskT (linesV (ps.take i))).size : Int)) (plain_code (plain_item (x := .inBlock 1) trivial (plain_code hk))) hfs rfl rfl (by decide) (fun τ d => by simp [go_sem, execOp, Act.eval]) ?_
    walk_nrm
    refine Reach.val plain_prog (.string (deskT (linesV (ps.take i)))) (plain_code (plain_item (x := .inBlock 1) trivial (plain_code hk))) hfs rfl rfl (by decide) (fun τ d => by simp [go_sem, execOp, Act.eval, hle2, hle3, hpre]) ?_
    walk_nrm
    refine Reach.val plain_prog (.string (deskT (linesV (ps.take i)))) (plain_code (plain_item (x := .inBlock 1) trivial (plain_code hk))) hfs rfl rfl (by decide) (fun τ d => by simp [go_sem, execOp, Act.eval]) ?_
    walk_nrm
    refine Reach.val plain_prog (.bool false) (plain_code (plain_item (x := .inBlock 1) trivial (plain_code hk))) hfs rfl rfl (by decide) (fun τ d => by simp [go_sem, execOp, Act.eval]) ?_
    walk_nrm
    refine Reach.val plain_prog (.bool false) (plain_code (plain_item (x := .inBlock 1) trivial (plain_code hk))) hfs rfl rfl (by decide) (fun τ d => by simp [go_sem, execOp, Act.eval]) ?_
    walk_nrm
    refine Reach.regionEnd plain_prog (plain_code (plain_item (x := .inBlock 1) trivial (plain_code hk))) hfs ?_
    refine Reach.cond plain_prog false rfl (plain_item (x := .inBlock 1) trivial (plain_code hk)) hfs ?_
    simp only [Bool.false_eq_true, if_false]
    refine Reach.skip plain_prog (plain_item (x := .inBlock 1) trivial (plain_code hk)) hfs ?_
    refine Reach.inBlock plain_prog (plain_item (x := .inBlock 1) trivial (plain_code hk)) hfs ?_
    have hw1 : IntKind.i64.wrap ((i : Int) + 1) = ((i + 1 : Nat) : Int) := by rw [IntWalk.i64_in _ ⟨by omega, by omega⟩]; omega
    refine Reach.region plain_prog hk hfs ?_
    simp only [List.size_toArray, List.length_cons, List.length_nil, Nat.reduceAdd, Nat.zero_add, List.range, List.range.loop]
    refine Reach.val plain_prog (.int .i64 (i : Int)) hk hfs rfl rfl (by decide) (fun τ d => by simp [go_sem, execOp, Act.eval]) ?_
    walk_nrm
    refine Reach.val plain_prog (.int .i64 ((i + 1 : Nat) : Int)) hk hfs rfl rfl (by decide) (fun τ d => by simp [go_sem, execOp, Act.eval, hw1]) ?_
    walk_nrm
    refine Reach.val plain_prog (.int .i64 ((i + 1 : Nat) : Int)) hk hfs rfl rfl (by decide) (fun τ d => by simp [go_sem, execOp, Act.eval]) ?_
    walk_nrm
    refine Reach.regionEnd plain_prog hk hfs ?_
    exact ih (ps.length + 1 - (i + 1)) _ w6 (by omega) ⟨i + 1, by omega, rfl, ⟨_, _, _, _, _, _, _, _, _, _, _, _, _, _, _, _, _, _, _, _, _, _, _, _, rfl⟩, b6, o6⟩
  refine Reach.region plain_prog (plain_code (plain_code hk)) hfs ?_
  simp only [List.size_toArray, List.length_cons, List.length_nil, Nat.reduceAdd, Nat.zero_add, List.range, List.range.loop]
  refine Reach.val plain_prog (.int .i64 (i : Int)) (plain_code (plain_code hk)) hfs rfl rfl (by decide) (fun τ d => by simp [go_sem, execOp, Act.eval]) ?_
  walk_nrm
  refine Reach.val plain_prog (.slice (some ⟨b, off, none⟩) ps.length cap3) (plain_code (plain_code hk)) hfs rfl rfl (by decide) (fun τ d => by simp [go_sem, execOp, Act.eval]) ?_
  walk_nrm
  refine Reach.val plain_prog (.int .i64 (ps.length : Int)) (plain_code (plain_code hk)) hfs rfl rfl (by decide) (fun τ d => by simp [go_sem, execOp, Act.eval]) ?_
  walk_nrm
  refine Reach.val plain_prog (.bool false) (plain_code (plain_code hk)) hfs rfl rfl (by decide) (fun τ d => by simp [go_sem, execOp, Act.eval, hlt]) ?_
  walk_nrm
  refine Reach.regionEnd plain_prog (plain_code (plain_code hk)) hfs ?_
  refine Reach.cond plain_prog false rfl (plain_code hk) hfs ?_
  simp only [Bool.false_eq_true, if_false]
  refine Reach.exit plain_prog rfl (plain_code hk) hfs ?_
  refine Reach.seq plain_prog hn hfs ?_
  refine Reach.region plain_prog (plain_code hn) hfs ?_
  simp only [List.size_toArray, List.length_cons, List.length_nil, Nat.reduceAdd, Nat.zero_add, List.range, List.range.loop]
  refine Reach.val plain_prog (.string (deskT (linesV ps))) (plain_code hn) hfs rfl rfl (by decide) (fun τ d => by simp [go_sem, execOp, Act.eval]) ?_
  walk_nrm
  refine Reach.call plain_prog (f := 8) (args := #[.string (deskT (linesV ps))]) (plain_code hn) hfs rfl rfl (by decide) (fun w => by simp [go_sem, execOp, Act.eval]) (countText_B ps w5 hl5) ?_
  rintro _ w6 ⟨rfl, hb6⟩
  walk_nrm
  have b6 : BelX w.heap.size w w6 := b5.trans (hb6.mono b5.size)
  refine Reach.val plain_prog (.slice (some ⟨b, off, none⟩) ps.length cap3) (plain_code hn) hfs rfl rfl (by decide) (fun τ d => by simp [go_sem, execOp, Act.eval]) ?_
  walk_nrm
  refine Reach.val plain_prog (.int .i64 (ps.length : Int)) (plain_code hn) hfs rfl rfl (by decide) (fun τ d => by simp [go_sem, execOp, Act.eval]) ?_
  walk_nrm
  refine Reach.val plain_prog (.bool true) (plain_code hn) hfs rfl rfl (by decide) (fun τ d => by simp [go_sem, execOp, Act.eval]) ?_
  walk_nrm
  refine Reach.val plain_prog (.bool true) (plain_code hn) hfs rfl rfl (by decide) (fun τ d => by simp [go_sem, execOp, Act.eval]) ?_
  walk_nrm
  refine Reach.regionEnd plain_prog (plain_code hn) hfs ?_
  refine Reach.ret plain_prog hn hfs ?_
  exact Reach.here fun d => ⟨_, .bool true, rfl, rfl, ⟨rfl, rfl, rfl, _, Tryz.func3, by simp [results, Tryz.f3, Frame.at]⟩, plain_code hn, rfl, b6.on _ _⟩
end Go.Proofs.YtpenbkfchgeafaaGreatDoor
