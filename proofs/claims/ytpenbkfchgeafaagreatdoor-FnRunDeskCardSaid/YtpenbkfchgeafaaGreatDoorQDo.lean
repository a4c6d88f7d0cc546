/- Numbers in decimal, in the model. What the package-level variables hold that the desk's code reads; it is kept by whatever leaves the old blocks. Numbers as a text, in the model. The model's reader of numbers. The model's pieces of a text. The model's list of numbers. The model's answer to a line: bills, and lines that are none. The numbers that a desk answers are small. The model's answer to a line of three pieces. The model's answer to a line. The model's RunDesk. What the laws do with slices of strings. Slices of strings: the laws' copying and comparing (made out of the texts on ints). Lines of a desk's text. -/
import Derived.Test.YtpenbkfchgeafaaGreatDoorQDn
import Derived.Test.YtpenbkfchgeafaaGreatDoorQOwnB
import Derived.IntWalk
import Derived.Laws.Strings
import Derived.Laws.Strings2
import Derived.Laws.Strings3
import Derived.Laws.Concat
import Derived.Lib.ItoaLen
import Derived.Lib.Join
import Derived.Lib.LaidTab
import Derived.Lib.ItoaMem
import Derived.LaidLaws
import Derived.Test.YtpenbkfchgeafaaGreatDoorQPush
namespace Go.Proofs.YtpenbkfchgeafaaGreatDoor
open Go.RowKit Go.Lib

/-- A text. -/
abbrev strV (l : List UInt8) : Value := .string ⟨l.toArray⟩
theorem str_append (a b : List UInt8) : (⟨a.toArray⟩ : ByteArray) ++ ⟨b.toArray⟩ = ⟨(a ++ b).toArray⟩ := by
  apply ByteArray.ext
  simp
theorem ret_str {a b : ByteArray} (h : a = b) : Ending.returned (.string a) = .returned (.string b) := by rw [h]
theorem digit_piece (u : Nat) (h : u < 10) : (⟨#[48, 49, 50, 51, 52, 53, 54, 55, 56, 57]⟩ : ByteArray).extract u (u + 1) = ⟨(decDigits u).toArray⟩ := by
  rw [decDigits, dif_pos h]
  rcases (show u = 0 ∨ u = 1 ∨ u = 2 ∨ u = 3 ∨ u = 4 ∨ u = 5 ∨ u = 6 ∨ u = 7 ∨ u = 8 ∨ u = 9 by omega) with e | e | e | e | e | e | e | e | e | e <;> subst e <;> decide +kernel

set_option maxRecDepth 100000 in
theorem number_nat (u : Nat) : ∀ (w : World), u ≤ 9223372036854775807 → Calls Tryz.prog 15 #[.int .i64 (u : Int)] w fun e w' => e = .returned (strV (decDigits u)) ∧ w = w' := by
  induction u using Nat.strongRecOn with
  | ind u ih =>
    intro w hu
    by_cases h : u < 10
    · have h1 : (u : Int) < 10 := by omega
      have h2 : ¬ (u : Int) < 0 := by omega
      have HD := Lib.hid (digit_piece u h)
      go_enter Tryz.func15, Tryz.ntmps15
      go_wp2
      rw [run_slice_string w _ ⟨#[48, 49, 50, 51, 52, 53, 54, 55, 56, 57]⟩ .i64 .i64 (u : Int) ((u : Int) + 1) Tryz.underlying9 (by omega) (by omega) (show (u : Int) + 1 ≤ ((10 : Nat) : Int) by omega)]
      go_wp2
      go_ret
      exact ⟨ret_str HD.out, rfl⟩
    · have h1 : ¬ (u : Int) < 10 := by omega
      have h2 : ¬ (u : Int) < 0 := by omega
      have H1 : Hid (∀ w, Calls Tryz.prog 15 #[.int .i64 ((u : Int) / 10)] w fun e w' => e = .returned (strV (decDigits (u / 10))) ∧ w = w') := fun w => ih (u / 10) (by omega) w (by omega)
      have H2 : Hid (∀ w, Calls Tryz.prog 15 #[.int .i64 ((u : Int) % 10)] w fun e w' => e = .returned (strV (decDigits (u % 10))) ∧ w = w') := fun w => ih (u % 10) (by omega) w (by omega)
      have HD : Hid (decDigits (u / 10) ++ decDigits (u % 10) = decDigits u) := by
        show _ = _
        rw [decDigits.eq_def u, dif_neg h, decDigits.eq_def (u % 10), dif_pos (by omega)]
      have hz1 : (decDigits (u / 10)).length ≤ 30 := by
        rw [decDigits_length]
        exact Nat.le_trans (nDigits_le20 _ (by omega)) (by omega)
      have hz2 : (decDigits (u % 10)).length ≤ 30 := by
        rw [decDigits_length]
        exact Nat.le_trans (nDigits_le20 _ (by omega)) (by omega)
      have hz : ¬ 9223372036854775807 < (decDigits (u / 10)).length + (decDigits (u % 10)).length := by omega
      clear ih
      go_enter Tryz.func15, Tryz.ntmps15
      go_wp2_with fail
      refine (H1.out _).mono ?_
      rintro e w' ⟨rfl, rfl⟩
      go_wp2_with fail
      refine (H2.out _).mono ?_
      rintro e w' ⟨rfl, rfl⟩
      go_wp2
      go_ret
      exact ⟨ret_str (by rw [str_append, HD.out]), rfl⟩

theorem itoa_nat (u : Nat) : itoa (u : Int) = decDigits u := by
  unfold itoa
  rw [if_neg (by omega), Int.toNat_natCast]
theorem itoa_neg {n : Int} (h : n < 0) : itoa n = 45 :: decDigits n.natAbs := if_pos h
theorem digits_len (u : Nat) (h : u ≤ 9223372036854775807) : (decDigits u).length ≤ 20 := by
  rw [decDigits_length]
  exact nDigits_le20 _ (by omega)
theorem itoa_len {n : Int} (h0 : -9223372036854775807 ≤ n) (h1 : n ≤ 9223372036854775807) : (itoa n).length ≤ 21 := itoa_length_le n (by omega) h1

set_option maxRecDepth 100000 in
theorem number_spec (n : Int) (w : World) (h0 : -9223372036854775807 ≤ n) (h1 : n ≤ 9223372036854775807) :
    Calls Tryz.prog 15 #[.int .i64 n] w fun e w' => e = .returned (strV (itoa n)) ∧ w = w' := by
  by_cases hn : n < 0
  · have hw : IntKind.i64.wrap (-n) = -n := IntWalk.i64_in _ ⟨by omega, by omega⟩
    have H1 : Hid (Calls Tryz.prog 15 #[.int .i64 (-n)] w fun e w' => e = .returned (strV (decDigits n.natAbs)) ∧ w = w') := by
      have := number_nat n.natAbs w (by omega)
      rw [show ((n.natAbs : Nat) : Int) = -n by omega] at this
      exact this
    have HD : Hid (itoa n = [45] ++ decDigits n.natAbs) := itoa_neg hn
    have hz := digits_len n.natAbs (by omega)
    have hz2 : ¬ 9223372036854775807 < 1 + (decDigits n.natAbs).length := by omega
    go_enter Tryz.func15, Tryz.ntmps15
    go_wp2_with fail
    refine H1.out.mono ?_
    rintro e w' ⟨rfl, rfl⟩
    go_wp2
    go_ret
    exact ⟨ret_str (by rw [HD.out]; exact str_append [45] _), rfl⟩
  · obtain ⟨u, rfl⟩ : ∃ u : Nat, n = u := ⟨n.toNat, by omega⟩
    rw [itoa_nat]
    exact number_nat u w (by omega)

theorem listT_one (x : Int) : listT [x] = itoa x := by
  unfold listT
  rw [List.map_singleton, join_one]
theorem joinTail_app (sep : List UInt8) (a b : List (List UInt8)) : joinTail sep (a ++ b) = joinTail sep a ++ joinTail sep b := by
  simp [joinTail]
theorem listT_snoc {P : List Int} (h : P ≠ []) (x : Int) : listT (P ++ [x]) = listT P ++ [44] ++ itoa x := by
  cases P with
  | nil => exact absurd rfl h
  | cons y r =>
    unfold listT
    rw [List.cons_append, List.map_cons, List.map_cons, join_cons, join_cons, List.map_append, joinTail_app]
    simp [joinTail]
/-- All numbers are of an int's kind, and not the least. -/
def Fine (xs : List Int) : Prop := ∀ x ∈ xs, -9223372036854775807 ≤ x ∧ x ≤ 9223372036854775807
theorem listT_len {xs : List Int} (h : Fine xs) : (listT xs).length ≤ 22 * xs.length := by
  cases xs with
  | nil => simp [listT, join_nil]
  | cons y r =>
    have key : ∀ r : List Int, Fine r → (joinTail [44] (r.map itoa)).length ≤ 22 * r.length := by
      intro r
      induction r with
      | nil => intro _; simp [joinTail]
      | cons z r ih =>
        intro hr
        have h1 := hr z (by simp)
        have h2 := itoa_len h1.1 h1.2
        have h3 := ih fun x hx => hr x (by simp [hx])
        simp only [joinTail, List.map_cons, List.flatten_cons, List.length_append, List.length_cons, List.length_nil] at h3 ⊢
        omega
    have h1 := h y (by simp)
    have h2 := itoa_len h1.1 h1.2
    have h3 := key r fun x hx => h x (by simp [hx])
    unfold listT
    rw [List.map_cons, join_cons, List.length_append, List.length_cons]
    omega
end Go.Proofs.YtpenbkfchgeafaaGreatDoor

namespace Go.Proofs.YtpenbkfchgeafaaGreatDoor
open Go.RowKit Go.Lib

def wordRow : Array Value := #[.string ⟨#[114, 101, 115, 116]⟩, .int .i64 2, .string ⟨#[115, 117, 109, 115]⟩, .int .i64 2, .string ⟨#[119, 97, 121, 115]⟩, .int .i64 2, .string ⟨#[99, 111, 105, 110, 115]⟩, .int .i64 2, .string ⟨#[98, 105, 108, 108]⟩, .int .i64 1]

/-- The listed variables, in a world. -/
structure LaidW (w : World) : Prop where
  pow : w.var? Tryz.prog "internal/strconv.uint64pow10" = some (Lib.pow10Tab.map fun z => Value.int .u64 z).toArray
  syn : ∃ tp p, w.var? Tryz.prog "strconv.ErrSyntax" = some #[.iface tp p]
  rng : ∃ tp p, w.var? Tryz.prog "strconv.ErrRange" = some #[.iface tp p]
  cap : ∃ m, w.cell? ⟨3, 0, none⟩ = some (.int .i64 m)
  word : w.var? Tryz.prog "loop.example/sumsthatadd/impl.deskWords" = some wordRow
  other : ∃ p, w.var? Tryz.prog "loop.example/sumsthatadd/impl.errOtherLine" = some #[.iface 166 (.pointer p)]
  handle : w.var? Tryz.prog "errors.errorType" = some #[.iface 95 (.agg #[.pointer (some ⟨11, 45, none⟩)])]

theorem var_keep {n : String} {cs : Array Value} {w w' : World} (h : w.var? Tryz.prog n = some cs) (hb : Below w.heap.size w w') : w'.var? Tryz.prog n = some cs := by
  unfold World.var? at *
  cases hg : Tryz.prog.globalNamed n with
  | none => simp [hg] at h
  | some g =>
    simp only [hg, Option.bind_some] at h ⊢
    have hlt : g < w.heap.size := by
      rcases Nat.lt_or_ge g w.heap.size with h' | h'
      · exact h'
      · rw [Array.getElem?_eq_none h'] at h; simp at h
    rw [hb.block g hlt]
    exact h
theorem var_on {n : String} {cs : Array Value} {w : World} (h : w.var? Tryz.prog n = some cs) (τ : Tape) (d : Nat) : ({ w with tape := τ, drawn := d } : World).var? Tryz.prog n = some cs := h

theorem LaidW.below {w w' : World} (h : LaidW w) (hb : Below w.heap.size w w') : LaidW w' where
  pow := var_keep h.pow hb
  syn := let ⟨_, _, e⟩ := h.syn; ⟨_, _, var_keep e hb⟩
  rng := let ⟨_, _, e⟩ := h.rng; ⟨_, _, var_keep e hb⟩
  cap := let ⟨_, e⟩ := h.cap; ⟨_, (hb.cell (World.block_lt_of_cell? w _ e)).trans e⟩
  word := var_keep h.word hb
  other := let ⟨_, e⟩ := h.other; ⟨_, var_keep e hb⟩
  handle := var_keep h.handle hb
theorem LaidW.step {w w' : World} {n : Nat} (h : LaidW w) (hb : Below n w w') (hn : w.heap.size ≤ n) : LaidW w' := h.below (hb.mono hn)

theorem g_words : Tryz.prog.globalNamed "loop.example/sumsthatadd/impl.deskWords" = some 2 := by kernel_rfl
theorem g_other : Tryz.prog.globalNamed "loop.example/sumsthatadd/impl.errOtherLine" = some 1 := by kernel_rfl
theorem g_handle : Tryz.prog.globalNamed "errors.errorType" = some 0 := by kernel_rfl

theorem LaidW.capCell {w : World} (h : LaidW w) : ∃ m, w.cell? ⟨3, 0, none⟩ = some (.int .i64 m) := h.cap
theorem LaidW.otherCell {w : World} (h : LaidW w) : ∃ p, w.cell? ⟨1, 0, none⟩ = some (.iface 166 (.pointer p)) := by
  obtain ⟨p, e⟩ := h.other
  exact ⟨p, by simpa using World.var?_cell g_other e 0⟩
theorem LaidW.handleCell {w : World} (h : LaidW w) : w.cell? ⟨0, 0, none⟩ = some (.iface 95 (.agg #[.pointer (some ⟨11, 45, none⟩)])) := by
  simpa using World.var?_cell g_handle h.handle 0
theorem LaidW.wordCell {w : World} (h : LaidW w) (r : Nat) : w.cell? ⟨2, r, none⟩ = wordRow[r]? := World.var?_cell g_words h.word r
end Go.Proofs.YtpenbkfchgeafaaGreatDoor

namespace Go.Proofs.YtpenbkfchgeafaaGreatDoor
open Go.RowKit Go.Lib

theorem listT_next {xs : List Int} {k : Nat} (h : k < xs.length) : listT (xs.take (k + 1)) = (if k = 0 then [] else listT (xs.take k) ++ [44]) ++ itoa (xs.getD k 0) := by
  rw [take_snoc xs h]
  split
  · rename_i e
    subst e
    exact listT_one _
  · rename_i e
    rw [listT_snoc]
    intro hn
    have := congrArg List.length hn
    rw [List.length_take, List.length_nil] at this
    omega

set_option maxRecDepth 100000 in
set_option maxHeartbeats 800000 in
theorem listText_spec (v : Value) (xs : List Int) (w : World) (hv : IsInts w v xs) (hl : xs.length ≤ 1000000) (hf : Fine xs) :
    Calls Tryz.prog 17 #[v] w fun e w' => e = .returned (strV (listT xs)) ∧ w = w' := by
  obtain ⟨a, cap, rfl, hc⟩ := hv
  go_enter Tryz.func17, Tryz.ntmps17
  go_wp2
  go_loop [3, 4] (fun o i => ∃ k : Nat, k ≤ xs.length ∧ i = .int .i64 k ∧ o = .string ⟨(listT (xs.take k)).toArray⟩) (fun _ i => xs.length - (intOf i).toNat)
  case atStart => exact ⟨0, Nat.zero_le _, rfl, rfl⟩
  case round =>
    obtain ⟨k, hk, rfl, rfl⟩ := hrel
    by_cases hlt : k < xs.length
    · obtain ⟨b, off, rfl, hcell⟩ := hc k hlt
      have hb := hf _ (getD_mem hlt)
      have hlen : (listT (xs.take k)).length ≤ 22 * k := by
        have := listT_len (xs := xs.take k) fun x hx => hf x (List.mem_of_mem_take hx)
        rwa [List.length_take, Nat.min_eq_left hk] at this
      have hlen2 := itoa_len hb.1 hb.2
      have HN := Lib.hid (number_spec (xs.getD k 0) w hb.1 hb.2)
      have HX := Lib.hid (listT_next hlt)
      generalize xs.getD k 0 = x at *
      generalize hT : listT (xs.take k) = T at *
      by_cases h0 : k = 0
      · subst h0
        have hT0 : T = [] := by rw [← hT]; rfl
        subst hT0
        rw [Nat.add_zero] at hcell
        have z1 : ¬ (0 : Int) < ((0 : Nat) : Int) := by omega
        have z2 : ¬ 9223372036854775807 < (itoa x).length := by omega
        go_wp2_with (go_at_call 15; refine HN.out.mono ?_; rintro e w' ⟨rfl, rfl⟩)
        go_round
        case rel => exact ⟨1, by omega, by go_num, by rw [HX.out]; exact congrArg Value.string (str_append [] (itoa x))⟩
        case measure => simp [intOf]; omega
      · have z1 : (0 : Int) < (k : Int) := by omega
        have z2 : ¬ 9223372036854775807 < T.length + 1 := by omega
        have z3 : ¬ 9223372036854775807 < T.length + 1 + (itoa x).length := by omega
        go_wp2_with (go_at_call 15; refine HN.out.mono ?_; rintro e w' ⟨rfl, rfl⟩)
        go_round
        case rel => exact ⟨k + 1, by omega, by go_num, by rw [HX.out, if_neg h0, ← str_append, ← str_append]⟩
        case measure => simp [intOf]; omega
    · have : xs.take k = xs := List.take_of_length_le (by omega)
      rw [this]
      go_wp2
      go_ret
      exact ⟨rfl, rfl⟩
end Go.Proofs.YtpenbkfchgeafaaGreatDoor

namespace Go.Proofs.YtpenbkfchgeafaaGreatDoor
open Go.RowKit Go.Lib

theorem readRaw_cat : ∀ (a b : List UInt8) (n : Nat), readRaw n (a ++ b) = (readRaw n a).bind fun m => readRaw m b
  | [], b, n => rfl
  | x :: a, b, n => by
    simp only [List.cons_append, readRaw]
    split
    · rfl
    · exact readRaw_cat a b _
theorem readRaw_at {l : List UInt8} {k m : Nat} (hk : k < l.length) (h : readRaw 0 (l.take k) = some m) :
    readRaw 0 l = if l[k].toNat < 48 ∨ 57 < l[k].toNat ∨ 100000 < m then none else readRaw (10 * m + (l[k].toNat - 48)) (l.drop (k + 1)) := by
  conv => lhs; rw [← List.take_append_drop k l, readRaw_cat, h, List.drop_eq_getElem_cons hk]
  rfl
theorem readRaw_step {l : List UInt8} {k m : Nat} (hk : k < l.length) (h : readRaw 0 (l.take k) = some m) (hc : ¬ (l[k].toNat < 48 ∨ 57 < l[k].toNat ∨ 100000 < m)) :
    readRaw 0 (l.take (k + 1)) = some (10 * m + (l[k].toNat - 48)) := by
  rw [List.take_succ_eq_append_getElem hk, readRaw_append, h, Option.bind_some, if_neg hc]
theorem byte_at (s : ByteArray) (k : Nat) (h : k < s.size) : ∃ (hk : k < s.data.toList.length), s.data.toList[k] = s[k] := ⟨by simpa using h, by simp; rfl⟩

set_option maxRecDepth 100000 in
set_option maxHeartbeats 1600000 in
theorem readNumber_spec (s : ByteArray) (w : World) (hs : s.size ≤ 9223372036854775806) :
    Calls Tryz.prog 32 #[.string s] w fun e w' => e = .returned (.int .i64 (readV s.data.toList)) ∧ w = w' := by
  go_enter Tryz.func32, Tryz.ntmps32
  go_wp2
  go_loop [3, 4] (fun o i => ∃ k m : Nat, k ≤ s.size ∧ i = .int .i64 k ∧ o = .int .i64 (m : Int) ∧ readRaw 0 (s.data.toList.take k) = some m ∧ m ≤ 1000009) (fun _ i => s.size - (intOf i).toNat)
  case atStart => exact ⟨0, 0, Nat.zero_le _, rfl, rfl, rfl, by omega⟩
  case round =>
    obtain ⟨k, m, hk, rfl, rfl, hr, hm⟩ := hrel
    by_cases hlt : k < s.size
    · have h1 : (k : Int) < (s.size : Int) := by omega
      obtain ⟨hk2, hb⟩ := byte_at s k hlt
      by_cases hc : s[k].toNat < 48 ∨ 57 < s[k].toNat ∨ 100000 < m
      · have HV : Hid (readV s.data.toList = -1) := by
          show _ = _
          unfold readV
          rw [readRaw_at hk2 hr, hb, if_pos hc]
        go_wp2
        all_goals first
          | (exfalso; omega)
          | (go_ret; exact ⟨ret_int HV.out.symm, rfl⟩)
      · have HR := Lib.hid (readRaw_step hk2 hr (by rw [hb]; exact hc))
        rw [hb] at HR
        clear hr
        go_wp2
        all_goals first
          | (exfalso; omega)
          | skip
        go_round
        case rel => exact ⟨k + 1, 10 * m + (s[k].toNat - 48), by omega, by go_num, by go_num, HR.out, by omega⟩
        case measure => simp [intOf]; omega
    · have hall : s.data.toList.take k = s.data.toList := List.take_of_length_le (by simp; omega)
      rw [hall] at hr
      have HN := Lib.hid (number_nat m w (by omega))
      have hb0 : ∀ l : List UInt8, s = ⟨l.toArray⟩ ↔ s.data.toList = l := fun l => ⟨fun e => by rw [e], fun e => by rw [← e]⟩
      by_cases h0 : s.data.toList = []
      · have HV : Hid (readV s.data.toList = -1) := by
          show _ = _
          unfold readV
          rw [hr]
          exact if_pos (.inl h0)
        have he : s.toList.isEmpty = true := by rw [ByteArray.toList_eq, h0]; rfl
        clear hr h0 hall hb0
        go_wp2
        go_ret
        exact ⟨ret_int HV.out.symm, rfl⟩
      · have he : s.toList.isEmpty = false := by rw [ByteArray.toList_eq]; exact List.isEmpty_eq_false_iff.2 h0
        by_cases hi : decDigits m = s.data.toList
        · have HV : Hid (readV s.data.toList = (m : Int)) := by
            show _ = _
            unfold readV
            rw [hr]
            refine if_neg ?_
            rintro (e | e)
            · exact h0 e
            · exact e ((itoa_nat m).trans hi)
          have hd : (decDigits m == s.toList) = true := by rw [ByteArray.toList_eq, hi]; exact beq_self_eq_true _
          clear hr h0 hi hall hb0
          go_wp2_with (go_at_call 15; refine HN.out.mono ?_; rintro e w' ⟨rfl, rfl⟩)
          go_ret
          exact ⟨ret_int HV.out.symm, rfl⟩
        · have HV : Hid (readV s.data.toList = -1) := by
            show _ = _
            unfold readV
            rw [hr]
            exact if_pos (.inr fun e => hi ((itoa_nat m).symm.trans e))
          have hd : (decDigits m == s.toList) = false := by rw [ByteArray.toList_eq]; exact beq_eq_false_iff_ne.2 hi
          clear hr h0 hi hall hb0
          go_wp2_with (go_at_call 15; refine HN.out.mono ?_; rintro e w' ⟨rfl, rfl⟩)
          go_ret
          exact ⟨ret_int HV.out.symm, rfl⟩
end Go.Proofs.YtpenbkfchgeafaaGreatDoor

namespace Go.Proofs.YtpenbkfchgeafaaGreatDoor
open Go.RowKit Go.Lib

theorem IsStrs.below {w w' : World} {v : Value} {xs : List ByteArray} (h : IsStrs w v xs) (hb : Below w.heap.size w w') : IsStrs w' v xs := by
  obtain ⟨a, cap, rfl, hc⟩ := h
  refine ⟨a, cap, rfl, fun j hj => ?_⟩
  obtain ⟨b, off, ha, hcell⟩ := hc j hj
  exact ⟨b, off, ha, (hb.cell (p := ⟨b, off + j, none⟩) (World.block_lt_of_cell? w _ hcell)).trans hcell⟩
theorem pieces_one (c : UInt8) : ∀ l : List UInt8, pieces c (l ++ [c]) = pieces c l ++ [[]]
  | [] => by simp [pieces]
  | b :: l => by
    have ih := pieces_one c l
    simp only [List.cons_append, pieces]
    split
    · rw [ih]; rfl
    · rw [ih]
      cases h : pieces c l with
      | nil => exact absurd h (pieces_ne c l)
      | cons p ps => rfl
theorem pieces_else {b c : UInt8} (hb : b ≠ c) : ∀ (l : List UInt8) (D : List (List UInt8)) (p : List UInt8), pieces c l = D ++ [p] → pieces c (l ++ [b]) = D ++ [p ++ [b]]
  | [], D, p, h => by
    cases D with
    | nil =>
      simp only [pieces, List.nil_append, List.cons.injEq, and_true] at h
      subst h
      simp [pieces, hb, conHead]
    | cons d D =>
      have := congrArg List.length h
      simp [pieces] at this
  | x :: l, D, p, h => by
    have ih := pieces_else hb l
    simp only [List.cons_append, pieces] at h ⊢
    split at h
    · rename_i hx
      rw [if_pos hx]
      cases D with
      | nil =>
        simp only [List.nil_append, List.cons.injEq] at h
        exact absurd h.2 (pieces_ne c l)
      | cons d D =>
        simp only [List.cons_append, List.cons.injEq] at h
        rw [ih D p h.2, ← h.1]
        rfl
    · rename_i hx
      rw [if_neg hx]
      cases hl : pieces c l with
      | nil => exact absurd hl (pieces_ne c l)
      | cons q qs =>
        rw [hl] at h ih
        simp only [conHead] at h
        cases D with
        | nil =>
          simp only [List.nil_append, List.cons.injEq] at h
          obtain ⟨rfl, rfl⟩ := h
          rw [ih [] q rfl]
          rfl
        | cons d D =>
          simp only [List.cons_append, List.cons.injEq] at h
          obtain ⟨rfl, h2⟩ := h
          rw [ih (q :: D) p (by rw [h2]; rfl)]
          rfl
theorem extract_list (s : ByteArray) (f k : Nat) : (s.extract f k).data.toList = (s.data.toList.take k).drop f := by
  rw [ByteArray.data_extract, Array.toList_extract, List.extract_eq_take_drop, List.drop_take]
/-- How far the pieces have come. -/
def Cut (c : UInt8) (l : List UInt8) (k f : Nat) (ps : List ByteArray) : Prop := pieces c (l.take k) = ps.map (·.data.toList) ++ [(l.take k).drop f]
theorem Cut.hit {c : UInt8} {s : ByteArray} {k f : Nat} {ps : List ByteArray} (h : Cut c s.data.toList k f ps) (hk : k < s.data.toList.length) (hb : s.data.toList[k] = c) : Cut c s.data.toList (k + 1) (k + 1) (ps ++ [s.extract f k]) := by
  unfold Cut at h ⊢
  rw [List.take_succ_eq_append_getElem hk, hb, pieces_one, h, List.map_append, List.map_singleton, extract_list]
  congr 1
  rw [List.drop_of_length_le]
  rw [List.length_append, List.length_take, List.length_singleton]
  omega
theorem Cut.miss {c : UInt8} {s : ByteArray} {k f : Nat} {ps : List ByteArray} (h : Cut c s.data.toList k f ps) (hk : k < s.data.toList.length) (hf : f ≤ k) (hb : s.data.toList[k] ≠ c) : Cut c s.data.toList (k + 1) f ps := by
  unfold Cut at h ⊢
  rw [List.take_succ_eq_append_getElem hk, pieces_else hb _ _ _ h, List.drop_append_of_le_length]
  rw [List.length_take]
  omega

set_option maxRecDepth 100000 in
set_option maxHeartbeats 1600000 in
theorem splitAt_spec (s : ByteArray) (c : UInt8) (w : World) (hs : s.size ≤ 1048575) :
    Calls Tryz.prog 29 #[.string s, .int .u8 c.toNat] w fun e w' => ∃ v ps, e = .returned v ∧ OwnStr w' w.heap.size v ps ∧ ps.map (·.data.toList) = pieces c s.data.toList ∧ Below w.heap.size w w' := by
  have ho0 := own_emptyS w w.heap.size (Nat.le_refl _)
  have hb0 : Below w.heap.size w (w.alloc (.cells #[] 9)) := (Below.refl _ _).alloc (Nat.le_refl _) _
  go_enter Tryz.func29, Tryz.ntmps29
  go_wp2
  go_loopw [5, 6, 7] (fun o f i wr => ∃ (k g : Nat) (ps : List ByteArray), k ≤ s.size ∧ g ≤ k ∧ i = .int .i64 k ∧ f = .int .i64 g ∧ OwnStr wr w.heap.size o ps ∧ ps.length ≤ k ∧ Cut c s.data.toList k g ps ∧ Below w.heap.size w wr) (fun _ _ i _ => s.size - (intOf i).toNat)
  case atStart => exact ⟨0, 0, [], Nat.zero_le _, Nat.le_refl _, rfl, rfl, ho0, Nat.le_refl _, rfl, hb0⟩
  case round =>
    obtain ⟨k, g, ps, hk, hg, rfl, rfl, own, hpl, hcut, hbel⟩ := hrel
    have hsz : w.heap.size ≤ wr.heap.size := hbel.size
    by_cases hlt : k < s.size
    · have h1 : (k : Int) < (s.size : Int) := by omega
      obtain ⟨hk2, hb⟩ := byte_at s k hlt
      by_cases hc : s[k] = c
      · have HC := Lib.hid (hcut.hit hk2 (hb.trans hc))
        have hc2 : (s[k].toNat : Int) = (c.toNat : Int) := by rw [hc]
        clear hcut hc
        go_wp2_with (at_builtin; refine wpList_pushS own (by omega) hsz (h := ?_))
        intro v2 w2 o2 g2 m2
        have b2 := hbel.trans (own.pushed_below g2 hsz)
        clear own hbel g2 m2
        go_wp2
        go_roundw
        case rel => exact ⟨k + 1, k + 1, _, by omega, Nat.le_refl _, by go_num, by go_num, o2, by simp; omega, HC.out, b2⟩
        case measure => simp [intOf]; omega
      · have HC := Lib.hid (hcut.miss hk2 hg (by rw [hb]; exact hc))
        have hc2 : ¬ (s[k].toNat : Int) = (c.toNat : Int) := fun e => hc (UInt8.toNat_inj.1 (by omega))
        clear hcut hc
        go_wp2
        go_roundw
        case rel => exact ⟨k + 1, g, ps, by omega, by omega, by go_num, rfl, own, by omega, HC.out, hbel⟩
        case measure => simp [intOf]; omega
    · have hke : k = s.size := by omega
      subst hke
      have HC := Lib.hid hcut
      clear hcut
      go_wp2_with (at_builtin; refine wpList_pushS own (by omega) hsz (h := ?_))
      intro v2 w2 o2 g2 m2
      have b2 := hbel.trans (own.pushed_below g2 hsz)
      clear own hbel g2 m2
      go_wp2
      go_ret
      refine ⟨_, _, rfl, o2, ?_, b2⟩
      have := HC.out
      unfold Cut at this
      rw [List.take_of_length_le (by simp)] at this
      rw [this, List.map_append, List.map_singleton, extract_list, List.take_of_length_le (by simp)]
end Go.Proofs.YtpenbkfchgeafaaGreatDoor

namespace Go.Proofs.YtpenbkfchgeafaaGreatDoor
open Go.RowKit Go.Lib

theorem pieces_len (c : UInt8) : ∀ (l : List UInt8), (pieces c l).length ≤ l.length + 1 ∧ ∀ p ∈ pieces c l, p.length ≤ l.length
  | [] => ⟨by simp [pieces], by simp [pieces]⟩
  | b :: l => by
    obtain ⟨h1, h2⟩ := pieces_len c l
    simp only [pieces]
    split
    · refine ⟨by simp; omega, fun p hp => ?_⟩
      simp only [List.mem_cons] at hp
      rcases hp with rfl | hp
      · simp
      · have := h2 p hp
        simp; omega
    · cases hl : pieces c l with
      | nil => exact absurd hl (pieces_ne c l)
      | cons q qs =>
        rw [hl] at h1 h2
        simp only [conHead]
        refine ⟨by simpa using Nat.le_succ_of_le h1, fun p hp => ?_⟩
        simp only [List.mem_cons] at hp
        rcases hp with rfl | hp
        · have := h2 q (by simp)
          simp; omega
        · have := h2 p (by simp [hp])
          simp; omega

set_option maxRecDepth 100000 in
set_option maxHeartbeats 1600000 in
theorem readList_spec (s : ByteArray) (w : World) (hs : s.size ≤ 1048575) :
    Calls Tryz.prog 31 #[.string s] w fun e w' => ∃ v, e = .returned v ∧ Own w' w.heap.size v ((pieces 44 s.data.toList).map readV) ∧ Below w.heap.size w w' := by
  obtain ⟨hp1, hp2⟩ := pieces_len 44 s.data.toList
  have hsl : s.data.toList.length = s.size := by simp
  rw [hsl] at hp1 hp2
  have ho0 := own_empty w w.heap.size (Nat.le_refl _)
  have hb0 : Below w.heap.size w (w.alloc (.cells #[] 3)) := (Below.refl _ _).alloc (Nat.le_refl _) _
  have HSP := Lib.hid (splitAt_spec s 44 (w.alloc (.cells #[] 3)) hs)
  go_enter Tryz.func31, Tryz.ntmps31
  go_wp2_with fail
  refine HSP.out.mono ?_
  rintro e w1 ⟨v1, ps, rfl, o1, hps, b1⟩
  have hplen : ps.length ≤ s.size + 1 := by
    have := congrArg List.length hps
    rw [List.length_map] at this
    omega
  have hpsz : ∀ k, k < ps.length → (ps.getD k ByteArray.empty).size ≤ s.size := fun k hk => by
    have hm : (ps.getD k ByteArray.empty).data.toList ∈ pieces 44 s.data.toList := by
      rw [← hps]
      refine List.mem_map.2 ⟨_, ?_, rfl⟩
      rw [List.getD_eq_getElem?_getD, List.getElem?_eq_getElem hk]
      exact List.getElem_mem hk
    have := hp2 _ hm
    simpa using this
  have oo : Own w1 w.heap.size (sl w.heap.size 0 0) [] := ho0.below b1
  have bb : Below w.heap.size w w1 := hb0.trans (b1.mono hb0.size)
  have hst := o1.strs
  have hap : Apart v1 (sl w.heap.size 0 0) := by
    by_cases hn : v1.ownBlock = none
    · exact .inl hn
    · refine .inr fun e => ?_
      have h1 := (o1.lt w.heap.size e).1
      simp at h1
      omega
  have o1b : OwnStr w1 w.heap.size v1 ps := o1.base hb0.size
  have HF : Hid ((pieces 44 s.data.toList).map readV = ps.map fun p => readV p.data.toList) := by show _ = _; rw [← hps, List.map_map]; rfl
  have hw1 : w.heap.size ≤ w1.heap.size := bb.size
  clear ho0 hb0 HSP b1 o1 hps hp1 hp2
  obtain ⟨av, cap, rfl, _⟩ := hst
  go_wp2
  go_loopw [3, 5] (fun o i wr => ∃ k : Nat, k ≤ ps.length ∧ i = .int .i64 k ∧ Own wr w.heap.size o ((ps.map fun p => readV p.data.toList).take k) ∧ Below w.heap.size w wr ∧ OwnStr wr w.heap.size (.slice av ps.length cap) ps ∧ Apart (.slice av ps.length cap) o) (fun _ i _ => ps.length - (intOf i).toNat)
  case atStart => exact ⟨0, Nat.zero_le _, rfl, oo, bb, o1b, hap⟩
  case round =>
    obtain ⟨k, hk, rfl, own, hbel, ostr, hap2⟩ := hrel
    have hsz : w.heap.size ≤ wr.heap.size := hbel.size
    by_cases hlt : k < ps.length
    · obtain ⟨a', cap', e', hcl⟩ := ostr.strs
      simp only [Value.slice.injEq] at e'
      obtain ⟨rfl, _, rfl⟩ := e'
      obtain ⟨b, off, rfl, hc⟩ := hcl k hlt
      have HN := Lib.hid (readNumber_spec (ps.getD k ByteArray.empty) wr (by have := hpsz k hlt; omega))
      have HT : Hid ((ps.map fun p => readV p.data.toList).take (k + 1) = (ps.map fun p => readV p.data.toList).take k ++ [readV (ps.getD k ByteArray.empty).data.toList]) := by
        show _ = _
        have hl : k < (ps.map fun p => readV p.data.toList).length := by rw [List.length_map]; exact hlt
        rw [List.take_succ_eq_append_getElem hl, List.getElem_map, List.getD_eq_getElem?_getD, List.getElem?_eq_getElem hlt]
        rfl
      have hpb := hpsz k hlt
      have hxl : ((ps.map fun p => readV p.data.toList).take k).length ≤ 1048576 := by rw [List.length_take, List.length_map]; omega
      have HP := Lib.hid hpsz
      clear hcl oo bb o1b hap hpsz
      generalize ps.getD k ByteArray.empty = p at *
      generalize (ps.map fun p => readV p.data.toList).take k = xs at *
      go_wp2_with (first | (go_at_call 32; refine HN.out.mono ?_; rintro e w' ⟨rfl, rfl⟩) | (at_builtin; refine wpList_push own hxl hsz (h := ?_)))
      intro v2 w2 o2 g2 m2
      have b2 := hbel.trans (own.pushed_below g2 hsz)
      have s2 := ostr.kept g2 hap2
      have a2 : Apart (.slice (some ⟨b, off, none⟩) ps.length cap) v2 := by
        by_cases hn : (Value.slice (some ⟨b, off, none⟩) ps.length cap).ownBlock = none
        · exact .inl hn
        · refine .inr fun e => ?_
          rcases hap2 with h | h
          · exact hn h
          · rcases m2 with m2 | ⟨j, m2, hj⟩
            · exact h (e.trans m2)
            · have := (ostr.lt j (e.trans m2)).2
              omega
      clear own hbel g2 m2 ostr hap2
      go_wp2
      go_roundw
      case rel => exact ⟨k + 1, by omega, by go_num, by rw [HT.out]; exact o2, b2, s2, a2⟩
      case measure => simp [intOf]; omega
    · have hall : (ps.map fun p => readV p.data.toList).take k = ps.map fun p => readV p.data.toList := List.take_of_length_le (by rw [List.length_map]; omega)
      rw [hall] at own
      have HO := Lib.hid own
      clear own hall oo bb o1b hap
      go_wp2
      go_ret
      exact ⟨_, rfl, by rw [HF.out]; exact HO.out, hbel⟩
end Go.Proofs.YtpenbkfchgeafaaGreatDoor

namespace Go.Proofs.YtpenbkfchgeafaaGreatDoor
open Go.RowKit Go.Lib

theorem toList_is {q : ByteArray} {l : List UInt8} (h : q.data.toList = l) : q.toList = l := by rw [ByteArray.toList_eq]; exact h
theorem strs_two {w : World} {v : Value} {q0 q1 : ByteArray} (h : IsStrs w v [q0, q1]) : ∃ b off cap, v = .slice (some ⟨b, off, none⟩) 2 cap ∧ w.cell? ⟨b, off, none⟩ = some (.string q0) ∧ w.cell? ⟨b, off + 1, none⟩ = some (.string q1) := by
  obtain ⟨a, cap, rfl, hc⟩ := h
  obtain ⟨b, off, rfl, h0⟩ := hc 0 (by simp)
  obtain ⟨b', off', e, h1⟩ := hc 1 (by simp)
  simp only [Option.some.injEq, Addr.mk.injEq, and_true] at e
  obtain ⟨rfl, rfl⟩ := e
  exact ⟨b, off, cap, rfl, h0, h1⟩
theorem two_of {ps : List ByteArray} {a b : List UInt8} (h : ps.map (·.data.toList) = [a, b]) : ∃ q0 q1, ps = [q0, q1] ∧ q0.data.toList = a ∧ q1.data.toList = b := by
  rcases ps with _ | ⟨q0, _ | ⟨q1, _ | ⟨q2, ps⟩⟩⟩
  · simp at h
  · simp at h
  · simp at h; exact ⟨q0, q1, rfl, h.1, h.2⟩
  · simp at h
theorem size_of {q : ByteArray} {l : List UInt8} (h : q.data.toList = l) : q.size = l.length := by rw [← h]; simp

set_option maxRecDepth 100000 in
set_option maxHeartbeats 1600000 in
theorem answer_no2 (s : ByteArray) (w : World) (hs : s.size ≤ 1048575) {w0 a0 : List UInt8} (hp : pieces 32 s.data.toList = [w0, a0]) (hw : w0 ≠ tBill) :
    Calls Tryz.prog 25 #[.string s] w fun e w' => e = .returned (strV tWhat) ∧ Below w.heap.size w w' := by
  have HSP := Lib.hid (splitAt_spec s 32 w hs)
  go_enter Tryz.func25, Tryz.ntmps25
  go_wp2_with fail
  refine HSP.out.mono ?_
  rintro e w1 ⟨v1, ps, rfl, o1, hps, b1⟩
  rw [hp] at hps
  obtain ⟨q0, q1, rfl, e0, e1⟩ := two_of hps
  obtain ⟨b, off, cap, rfl, c0, c1⟩ := strs_two o1.strs
  have hb : (q0.toList == [98, 105, 108, 108]) = false := by rw [toList_is e0]; exact beq_eq_false_iff_ne.2 hw
  clear HSP hps o1 hp hw e0 e1
  go_wp2
  go_ret
  exact ⟨rfl, b1⟩
end Go.Proofs.YtpenbkfchgeafaaGreatDoor

namespace Go.Proofs.YtpenbkfchgeafaaGreatDoor
open Go.RowKit Go.Lib

theorem getD_within {l : List Int} {lo hi : Int} (h : ∀ x ∈ l, lo ≤ x ∧ x ≤ hi) (h0 : lo ≤ 0) (h1 : 0 ≤ hi) (i : Nat) : lo ≤ l.getD i 0 ∧ l.getD i 0 ≤ hi := by
  rw [List.getD_eq_getElem?_getD]
  cases e : l[i]? with
  | none => exact ⟨h0, h1⟩
  | some x => exact h x (List.mem_of_getElem? e)
theorem split_within {t : Int} (h0 : 0 ≤ t) (h1 : t ≤ 100000) (n : Int) : ∀ x ∈ splitL t n, 0 ≤ x ∧ x ≤ 100001 := by
  intro x hx
  unfold splitL at hx
  split at hx
  · rename_i hc
    have hn := inR_true hc.2
    obtain ⟨i, _, rfl⟩ := List.mem_map.1 hx
    have h2 := Int.ediv_nonneg h0 (show 0 ≤ n by omega)
    have h3 := Int.ediv_le_self n h0
    unfold evenAt
    split <;> omega
  · cases hx
theorem fine_bill (xs : List Int) : Fine (billL xs) ∧ (billL xs).length ≤ 6 := by
  unfold billL
  split
  · rename_i h
    obtain ⟨h1, h2, h3⟩ := (billOK_iff xs).1 h
    refine ⟨fun x hx => ?_, by simpa using h3⟩
    obtain ⟨i, hi, rfl⟩ := List.mem_map.1 hx
    obtain ⟨ht0, ht⟩ := tot_bounds xs 50 h1
    have hl : (xs.length : Int) ≤ 6 := by omega
    have a1 := getD_within (fun x hx => h1 x hx) (by omega) (by omega) i
    have a2 := getD_within (split_within ht0 (by omega) xs.length) (by omega) (by omega) i
    omega
  · exact ⟨fun _ hx => absurd hx List.not_mem_nil, Nat.zero_le _⟩
theorem fine_rest (t : Int) (xs : List Int) : Fine (restL t xs) ∧ (restL t xs).length ≤ 8 := by
  refine ⟨?_, restL_length t xs⟩
  unfold restL
  split
  · rename_i h
    obtain ⟨h0, h1, hv⟩ := cShare_facts h
    obtain ⟨hl, hx, t0, t1, _⟩ := vParts_facts hv
    intro x hxm
    obtain ⟨i, hi, rfl⟩ := List.mem_map.1 hxm
    have a1 := getD_within hx (by omega) (by omega) i
    have m0 := Int.mul_nonneg h0 a1.1
    have m1 : t * xs.getD i 0 ≤ 100000 * 50 := Int.mul_le_mul h1 a1.2 a1.1 (by omega)
    have d0 := Int.ediv_nonneg m0 (show 0 ≤ tot xs by omega)
    have d1 := Int.ediv_le_self (tot xs) m0
    unfold restAt qAt
    split <;> omega
  · exact fun _ hx => absurd hx List.not_mem_nil
theorem fine_sums (t : Int) (xs : List Int) : Fine (sumsL t xs) ∧ (sumsL t xs).length ≤ 8 := by
  refine ⟨?_, sumsL_length t xs⟩
  unfold sumsL
  split
  · rename_i h
    obtain ⟨h0, h1, hv⟩ := cShare_facts h
    obtain ⟨hl, hx, t0, t1, _⟩ := vParts_facts hv
    intro x hxm
    obtain ⟨i, hi, rfl⟩ := List.mem_map.1 hxm
    have b1 := tot_take_bounds hx hl.2 (i + 1)
    have b2 := tot_take_bounds hx hl.2 i
    have r1 := rd_bounds h0 h1 t0 t1 b1.1 b1.2
    have r2 := rd_bounds h0 h1 t0 t1 b2.1 b2.2
    unfold sumsAt
    omega
  · exact fun _ hx => absurd hx List.not_mem_nil
theorem mem_le_sum : ∀ {l : List Int}, (∀ x ∈ l, 0 ≤ x) → 0 ≤ l.sum ∧ ∀ x ∈ l, x ≤ l.sum
  | [], _ => ⟨by simp, fun x hx => by cases hx⟩
  | y :: l, h => by
    obtain ⟨h1, h2⟩ := mem_le_sum (l := l) fun x hx => h x (by simp [hx])
    have hy := h y (by simp)
    rw [List.sum_cons]
    refine ⟨by omega, fun x hx => ?_⟩
    rcases List.mem_cons.1 hx with rfl | hx
    · omega
    · have := h2 x hx
      omega
theorem fine_few (cs : List Int) (a : Int) : Fine (fewL cs a) ∧ (fewL cs a).length ≤ 5 := by
  unfold fewL
  split
  · rename_i h
    have hf := cFew_facts h
    obtain ⟨hvc, ha, hfw⟩ := hf
    have hs := (fcL_facts (vc_pos hvc) hfw).1
    have hb := fw_bound (vc_pos hvc) hfw
    obtain ⟨_, h2⟩ := mem_le_sum (fcL_nonneg cs a)
    refine ⟨fun x hx => ?_, by rw [fcL_len]; exact (vc_len hvc).2⟩
    have h3 := h2 x hx
    have h4 := fcL_nonneg cs a x hx
    omega
  · exact ⟨fun _ hx => absurd hx List.not_mem_nil, Nat.zero_le _⟩

theorem itoa_ne (n : Int) : itoa n ≠ [] := by
  unfold itoa
  split
  · simp
  · exact decDigits_ne _
theorem listT_ne {xs : List Int} (h : xs ≠ []) : listT xs ≠ [] := by
  cases xs with
  | nil => exact absurd rfl h
  | cons y r =>
    unfold listT
    rw [List.map_cons, join_cons]
    simp [itoa_ne]
theorem read_len (a0 : List UInt8) : ((pieces 44 a0).map readV).length ≤ a0.length + 1 := by
  rw [List.length_map]
  exact (pieces_len 44 a0).1
theorem ret_said {a b : List UInt8} (h : a = b) : Ending.returned (strV b) = .returned (strV a) := by rw [h]

set_option maxRecDepth 100000 in
set_option maxHeartbeats 1600000 in
theorem answer_bill (s : ByteArray) (w : World) (hs : s.size ≤ 1048575) {a0 : List UInt8} (hp : pieces 32 s.data.toList = [tBill, a0]) :
    Calls Tryz.prog 25 #[.string s] w fun e w' => e = .returned (strV (orWrong (saidV tBill 0 ((pieces 44 a0).map readV)))) ∧ Below w.heap.size w w' := by
  have hal : a0.length ≤ s.size := by
    have := (pieces_len 32 s.data.toList).2 a0 (by rw [hp]; simp)
    simpa using this
  have HSP := Lib.hid (splitAt_spec s 32 w hs)
  have HSD : Hid (saidV tBill 0 ((pieces 44 a0).map readV) = listT (billL ((pieces 44 a0).map readV))) := by
    show _ = _
    unfold saidV
    rw [if_neg (by decide), if_neg (by decide), if_pos rfl]
  go_enter Tryz.func25, Tryz.ntmps25
  go_wp2_with fail
  refine HSP.out.mono ?_
  rintro e w1 ⟨v1, ps, rfl, o1, hps, b1⟩
  rw [hp] at hps
  obtain ⟨q0, q1, rfl, e0, e1⟩ := two_of hps
  obtain ⟨b, off, cap, rfl, c0, c1⟩ := strs_two o1.strs
  have hb : (q0.toList == [98, 105, 108, 108]) = true := by rw [toList_is e0]; rfl
  have HRL := Lib.hid (readList_spec q1 w1 (by rw [size_of e1]; omega))
  rw [e1] at HRL
  clear HSP hps o1 hp e0 e1
  have hrl := read_len a0
  obtain ⟨ls, hls⟩ : ∃ ls, (pieces 44 a0).map readV = ls := ⟨_, rfl⟩
  rw [hls] at HRL hrl
  have HLS := Lib.hid hls
  rw [hls] at HSD
  clear hls
  go_wp2_with fail
  refine HRL.out.mono ?_
  rintro e w2 ⟨v2, rfl, o2, b2⟩
  have b12 := b1.trans (b2.mono b1.size)
  have HBS := Lib.hid (BillShares_spec v2 ls w2 o2.ints (by omega))
  clear HRL b1 b2 o2
  go_wp2_with fail
  refine HBS.out.mono ?_
  rintro e w3 ⟨v3, rfl, o3, b3⟩
  have b13 := b12.trans (b3.mono b12.size)
  obtain ⟨hf, hl6⟩ := fine_bill ls
  obtain ⟨a3, cap3, rfl, hc3⟩ := o3.ints
  have hint : IsInts w3 (.slice a3 (billL ls).length cap3) (billL ls) := o3.ints
  clear HBS b12 b3
  by_cases hz : billL ls = []
  · have HW : Hid (orWrong (saidV tBill 0 ((pieces 44 a0).map readV)) = tWrong) := by show _ = _; rw [HLS.out, HSD.out, hz]; rfl
    rw [hz]
    go_wp2
    go_ret
    exact ⟨ret_said HW.out, b13⟩
  · have hlen : (billL ls).length ≠ 0 := fun e => hz (List.length_eq_zero_iff.1 e)
    have hlen2 : ¬ ((billL ls).length : Int) = 0 := by omega
    have HW : Hid (orWrong (saidV tBill 0 ((pieces 44 a0).map readV)) = listT (billL ls)) := by show _ = _; rw [HLS.out, HSD.out]; exact if_neg (listT_ne hz)
    have HLT := Lib.hid (listText_spec _ (billL ls) w3 hint (by omega) hf)
    go_wp2_with (go_at_call 17; refine HLT.out.mono ?_; rintro e w' ⟨rfl, rfl⟩)
    go_ret
    exact ⟨ret_said HW.out, b13⟩
end Go.Proofs.YtpenbkfchgeafaaGreatDoor

namespace Go.Proofs.YtpenbkfchgeafaaGreatDoor
open Go.RowKit Go.Lib

theorem strs_three {w : World} {v : Value} {q0 q1 q2 : ByteArray} (h : IsStrs w v [q0, q1, q2]) : ∃ b off cap, v = .slice (some ⟨b, off, none⟩) 3 cap ∧ w.cell? ⟨b, off, none⟩ = some (.string q0) ∧ w.cell? ⟨b, off + 1, none⟩ = some (.string q1) ∧ w.cell? ⟨b, off + 2, none⟩ = some (.string q2) := by
  obtain ⟨a, cap, rfl, hc⟩ := h
  obtain ⟨b, off, rfl, h0⟩ := hc 0 (by simp)
  obtain ⟨b', off', e, h1⟩ := hc 1 (by simp)
  obtain ⟨b2, off2, e2, h2⟩ := hc 2 (by simp)
  simp only [Option.some.injEq, Addr.mk.injEq, and_true] at e e2
  obtain ⟨rfl, rfl⟩ := e
  obtain ⟨rfl, rfl⟩ := e2
  exact ⟨b, off, cap, rfl, h0, h1, h2⟩
theorem three_of {ps : List ByteArray} {a b c : List UInt8} (h : ps.map (·.data.toList) = [a, b, c]) : ∃ q0 q1 q2, ps = [q0, q1, q2] ∧ q0.data.toList = a ∧ q1.data.toList = b ∧ q2.data.toList = c := by
  rcases ps with _ | ⟨q0, _ | ⟨q1, _ | ⟨q2, _ | ⟨q3, ps⟩⟩⟩⟩
  · simp at h
  · simp at h
  · simp at h
  · simp at h; exact ⟨q0, q1, q2, rfl, h.1, h.2.1, h.2.2⟩
  · simp at h
theorem word_is {q : ByteArray} {l : List UInt8} (h : q.data.toList = l) (m : List UInt8) : (q.toList == m) = decide (l = m) := by
  rw [toList_is h]
  by_cases e : l = m
  · rw [e]; simp
  · rw [decide_eq_false e]; exact beq_eq_false_iff_ne.2 e
theorem ways_in2 {cs : List Int} {a : Int} (h : ¬ waysV cs a < 0) : vCoins cs = true ∧ (0 ≤ a ∧ a ≤ 120) ∧ waysV cs a = wyV cs a := by
  unfold waysV at h ⊢
  split at h
  · rename_i hh
    exact ⟨hh.1, inR_true hh.2, if_pos hh⟩
  · exact absurd (by omega) h
theorem orWrong_of {a b : List UInt8} (h : a = b) (hb : b ≠ []) : orWrong a = b := by rw [h]; exact if_neg hb
theorem orWrong_no {a : List UInt8} (h : a = []) : orWrong a = tWrong := by rw [h]; rfl
set_option maxRecDepth 100000 in
set_option maxHeartbeats 3200000 in
theorem answer_no3 (s : ByteArray) (w : World) (hs : s.size ≤ 1048575) {w0 a0 b0 : List UInt8} (hp : pieces 32 s.data.toList = [w0, a0, b0]) (hw : isTwo w0 = false) :
    Calls Tryz.prog 25 #[.string s] w fun e w' => e = .returned (strV (tWhat)) ∧ Below w.heap.size w w' := by
  have hal : a0.length ≤ s.size := by
    have := (pieces_len 32 s.data.toList).2 a0 (by rw [hp]; simp)
    simpa using this
  have hbl : b0.length ≤ s.size := by
    have := (pieces_len 32 s.data.toList).2 b0 (by rw [hp]; simp)
    simpa using this
  have HSP := Lib.hid (splitAt_spec s 32 w hs)
  obtain ⟨h_rest, h_sums, h_ways, h_coins⟩ : w0 ≠ tRest ∧ w0 ≠ tSums ∧ w0 ≠ tWays ∧ w0 ≠ tCoins := by
    unfold isTwo at hw
    rw [decide_eq_false_iff_not] at hw
    exact ⟨fun e => hw (.inl e), fun e => hw (.inr (.inl e)), fun e => hw (.inr (.inr (.inl e))), fun e => hw (.inr (.inr (.inr e)))⟩
  go_enter Tryz.func25, Tryz.ntmps25
  go_wp2_with fail
  refine HSP.out.mono ?_
  rintro e w1 ⟨v1, ps, rfl, o1, hps, b1⟩
  rw [hp] at hps
  obtain ⟨q0, q1, q2, rfl, e0, e1, e2⟩ := three_of hps
  obtain ⟨b, off, cap, rfl, c0, c1, c2⟩ := strs_three o1.strs
  have k_rest : (q0.toList == [114, 101, 115, 116]) = false := by rw [word_is e0]; exact decide_eq_false h_rest
  have k_sums : (q0.toList == [115, 117, 109, 115]) = false := by rw [word_is e0]; exact decide_eq_false h_sums
  have k_ways : (q0.toList == [119, 97, 121, 115]) = false := by rw [word_is e0]; exact decide_eq_false h_ways
  have k_coins : (q0.toList == [99, 111, 105, 110, 115]) = false := by rw [word_is e0]; exact decide_eq_false h_coins
  clear HSP hps o1 hp hw e0 e1 e2
  go_wp2
  go_ret
  exact ⟨rfl, b1⟩

set_option maxRecDepth 100000 in
set_option maxHeartbeats 3200000 in
theorem answer_rest (s : ByteArray) (w : World) (hs : s.size ≤ 1048575) {w0 a0 b0 : List UInt8} (hp : pieces 32 s.data.toList = [w0, a0, b0]) (hw : w0 = tRest) :
    Calls Tryz.prog 25 #[.string s] w fun e w' => e = .returned (strV (orWrong (saidV w0 (readV a0) ((pieces 44 b0).map readV)))) ∧ Below w.heap.size w w' := by
  have hal : a0.length ≤ s.size := by
    have := (pieces_len 32 s.data.toList).2 a0 (by rw [hp]; simp)
    simpa using this
  have hbl : b0.length ≤ s.size := by
    have := (pieces_len 32 s.data.toList).2 b0 (by rw [hp]; simp)
    simpa using this
  have HSP := Lib.hid (splitAt_spec s 32 w hs)
  subst hw
  go_enter Tryz.func25, Tryz.ntmps25
  go_wp2_with fail
  refine HSP.out.mono ?_
  rintro e w1 ⟨v1, ps, rfl, o1, hps, b1⟩
  rw [hp] at hps
  obtain ⟨q0, q1, q2, rfl, e0, e1, e2⟩ := three_of hps
  obtain ⟨b, off, cap, rfl, c0, c1, c2⟩ := strs_three o1.strs
  have k_rest : (q0.toList == [114, 101, 115, 116]) = true := by rw [word_is e0]; decide
  have k_sums : (q0.toList == [115, 117, 109, 115]) = false := by rw [word_is e0]; decide
  have k_ways : (q0.toList == [119, 97, 121, 115]) = false := by rw [word_is e0]; decide
  have k_coins : (q0.toList == [99, 111, 105, 110, 115]) = false := by rw [word_is e0]; decide
  have HN := Lib.hid (readNumber_spec q1 w1 (by rw [size_of e1]; omega))
  rw [e1] at HN
  have HRL := Lib.hid (readList_spec q2 w1 (by rw [size_of e2]; omega))
  rw [e2] at HRL
  have hrl := read_len b0
  obtain ⟨ls, hls⟩ : ∃ ls, (pieces 44 b0).map readV = ls := ⟨_, rfl⟩
  obtain ⟨x, hx⟩ : ∃ x, readV a0 = x := ⟨_, rfl⟩
  rw [hls] at HRL hrl
  rw [hx] at HN
  have HLS := Lib.hid hls
  have HX := Lib.hid hx
  clear HSP hps o1 hp e0 e1 e2 hls hx
  go_wp2_with fail
  refine HN.out.mono ?_
  rintro e w' ⟨rfl, rfl⟩
  go_wp2_with fail
  refine HRL.out.mono ?_
  rintro e w2 ⟨v2, rfl, o2, b2⟩
  have b12 := b1.trans (b2.mono b1.size)
  have d0 := (b2.cell (p := ⟨b, off, none⟩) (World.block_lt_of_cell? _ _ c0)).trans c0
  have hv := o2.ints
  clear HN HRL b1 b2 o2 c0 c1 c2
  have HSD : Hid (saidV tRest x ls = listT (restL x ls)) := by
    show _ = _
    unfold saidV
    rw [if_pos rfl]
  have HVT := Lib.hid (validTotal_spec x v2 ls w2 hv (by omega))
  obtain ⟨hf, hl8⟩ := fine_rest x ls
  cases hc : cShare x ls
  · have hn : restL x ls = [] := by unfold restL; rw [hc]; rfl
    have HW : Hid (orWrong (saidV tRest (readV a0) ((pieces 44 b0).map readV)) = tWrong) := by
      show _ = _
      rw [HX.out, HLS.out]
      exact orWrong_no (by rw [HSD.out, hn]; rfl)
    rw [hc] at HVT
    go_wp2_with (go_at_call 33; refine HVT.out.mono ?_; rintro e w' ⟨rfl, rfl⟩)
    go_ret
    exact ⟨ret_said HW.out, b12⟩
  · rw [hc] at HVT
    have HFN := Lib.hid (largest_spec x v2 ls w2 hv hc)
    have hne : restL x ls ≠ [] := by
      obtain ⟨_, _, hvp⟩ := cShare_facts hc
      obtain ⟨hl, _⟩ := vParts_facts hvp
      unfold restL
      rw [if_pos hc]
      intro e
      have := congrArg List.length e
      simp at this
      rw [this] at hl
      simp at hl
    have HW : Hid (orWrong (saidV tRest (readV a0) ((pieces 44 b0).map readV)) = listT (restL x ls)) := by
      show _ = _
      rw [HX.out, HLS.out]
      exact orWrong_of HSD.out (listT_ne hne)
    clear hc hne
    go_wp2_with (go_at_call 33; refine HVT.out.mono ?_; rintro e w' ⟨rfl, rfl⟩)
    refine HFN.out.mono ?_
    rintro e w3 ⟨v3, rfl, o3, b3⟩
    have b13 := b12.trans (b3.mono b12.size)
    have HLT := Lib.hid (listText_spec v3 _ w3 o3.ints (by omega) hf)
    clear HVT HFN b12 b3 o3
    go_wp2_with fail
    refine HLT.out.mono ?_
    rintro e w' ⟨rfl, rfl⟩
    go_wp2
    go_ret
    exact ⟨ret_said HW.out, b13⟩

set_option maxRecDepth 100000 in
set_option maxHeartbeats 3200000 in
theorem answer_sums (s : ByteArray) (w : World) (hs : s.size ≤ 1048575) {w0 a0 b0 : List UInt8} (hp : pieces 32 s.data.toList = [w0, a0, b0]) (hw : w0 = tSums) :
    Calls Tryz.prog 25 #[.string s] w fun e w' => e = .returned (strV (orWrong (saidV w0 (readV a0) ((pieces 44 b0).map readV)))) ∧ Below w.heap.size w w' := by
  have hal : a0.length ≤ s.size := by
    have := (pieces_len 32 s.data.toList).2 a0 (by rw [hp]; simp)
    simpa using this
  have hbl : b0.length ≤ s.size := by
    have := (pieces_len 32 s.data.toList).2 b0 (by rw [hp]; simp)
    simpa using this
  have HSP := Lib.hid (splitAt_spec s 32 w hs)
  subst hw
  go_enter Tryz.func25, Tryz.ntmps25
  go_wp2_with fail
  refine HSP.out.mono ?_
  rintro e w1 ⟨v1, ps, rfl, o1, hps, b1⟩
  rw [hp] at hps
  obtain ⟨q0, q1, q2, rfl, e0, e1, e2⟩ := three_of hps
  obtain ⟨b, off, cap, rfl, c0, c1, c2⟩ := strs_three o1.strs
  have k_rest : (q0.toList == [114, 101, 115, 116]) = false := by rw [word_is e0]; decide
  have k_sums : (q0.toList == [115, 117, 109, 115]) = true := by rw [word_is e0]; decide
  have k_ways : (q0.toList == [119, 97, 121, 115]) = false := by rw [word_is e0]; decide
  have k_coins : (q0.toList == [99, 111, 105, 110, 115]) = false := by rw [word_is e0]; decide
  have HN := Lib.hid (readNumber_spec q1 w1 (by rw [size_of e1]; omega))
  rw [e1] at HN
  have HRL := Lib.hid (readList_spec q2 w1 (by rw [size_of e2]; omega))
  rw [e2] at HRL
  have hrl := read_len b0
  obtain ⟨ls, hls⟩ : ∃ ls, (pieces 44 b0).map readV = ls := ⟨_, rfl⟩
  obtain ⟨x, hx⟩ : ∃ x, readV a0 = x := ⟨_, rfl⟩
  rw [hls] at HRL hrl
  rw [hx] at HN
  have HLS := Lib.hid hls
  have HX := Lib.hid hx
  clear HSP hps o1 hp e0 e1 e2 hls hx
  go_wp2_with fail
  refine HN.out.mono ?_
  rintro e w' ⟨rfl, rfl⟩
  go_wp2_with fail
  refine HRL.out.mono ?_
  rintro e w2 ⟨v2, rfl, o2, b2⟩
  have b12 := b1.trans (b2.mono b1.size)
  have d0 := (b2.cell (p := ⟨b, off, none⟩) (World.block_lt_of_cell? _ _ c0)).trans c0
  have hv := o2.ints
  clear HN HRL b1 b2 o2 c0 c1 c2
  have HSD : Hid (saidV tSums x ls = listT (sumsL x ls)) := by
    show _ = _
    unfold saidV
    rw [if_neg (by decide), if_pos rfl]
  have HVT := Lib.hid (validTotal_spec x v2 ls w2 hv (by omega))
  obtain ⟨hf, hl8⟩ := fine_sums x ls
  cases hc : cShare x ls
  · have hn : sumsL x ls = [] := by unfold sumsL; rw [hc]; rfl
    have HW : Hid (orWrong (saidV tSums (readV a0) ((pieces 44 b0).map readV)) = tWrong) := by
      show _ = _
      rw [HX.out, HLS.out]
      exact orWrong_no (by rw [HSD.out, hn]; rfl)
    rw [hc] at HVT
    go_wp2_with (go_at_call 33; refine HVT.out.mono ?_; rintro e w' ⟨rfl, rfl⟩)
    go_ret
    exact ⟨ret_said HW.out, b12⟩
  · rw [hc] at HVT
    have HFN := Lib.hid (running_spec x v2 ls w2 hv hc)
    have hne : sumsL x ls ≠ [] := by
      obtain ⟨_, _, hvp⟩ := cShare_facts hc
      obtain ⟨hl, _⟩ := vParts_facts hvp
      unfold sumsL
      rw [if_pos hc]
      intro e
      have := congrArg List.length e
      simp at this
      rw [this] at hl
      simp at hl
    have HW : Hid (orWrong (saidV tSums (readV a0) ((pieces 44 b0).map readV)) = listT (sumsL x ls)) := by
      show _ = _
      rw [HX.out, HLS.out]
      exact orWrong_of HSD.out (listT_ne hne)
    clear hc hne
    go_wp2_with (go_at_call 33; refine HVT.out.mono ?_; rintro e w' ⟨rfl, rfl⟩)
    refine HFN.out.mono ?_
    rintro e w3 ⟨v3, rfl, o3, b3⟩
    have b13 := b12.trans (b3.mono b12.size)
    have HLT := Lib.hid (listText_spec v3 _ w3 o3.ints (by omega) hf)
    clear HVT HFN b12 b3 o3
    go_wp2_with fail
    refine HLT.out.mono ?_
    rintro e w' ⟨rfl, rfl⟩
    go_wp2
    go_ret
    exact ⟨ret_said HW.out, b13⟩

set_option maxRecDepth 100000 in
set_option maxHeartbeats 3200000 in
theorem answer_ways (s : ByteArray) (w : World) (hs : s.size ≤ 1048575) {w0 a0 b0 : List UInt8} (hp : pieces 32 s.data.toList = [w0, a0, b0]) (hw : w0 = tWays) :
    Calls Tryz.prog 25 #[.string s] w fun e w' => e = .returned (strV (orWrong (saidV w0 (readV a0) ((pieces 44 b0).map readV)))) ∧ Below w.heap.size w w' := by
  have hal : a0.length ≤ s.size := by
    have := (pieces_len 32 s.data.toList).2 a0 (by rw [hp]; simp)
    simpa using this
  have hbl : b0.length ≤ s.size := by
    have := (pieces_len 32 s.data.toList).2 b0 (by rw [hp]; simp)
    simpa using this
  have HSP := Lib.hid (splitAt_spec s 32 w hs)
  subst hw
  go_enter Tryz.func25, Tryz.ntmps25
  go_wp2_with fail
  refine HSP.out.mono ?_
  rintro e w1 ⟨v1, ps, rfl, o1, hps, b1⟩
  rw [hp] at hps
  obtain ⟨q0, q1, q2, rfl, e0, e1, e2⟩ := three_of hps
  obtain ⟨b, off, cap, rfl, c0, c1, c2⟩ := strs_three o1.strs
  have k_rest : (q0.toList == [114, 101, 115, 116]) = false := by rw [word_is e0]; decide
  have k_sums : (q0.toList == [115, 117, 109, 115]) = false := by rw [word_is e0]; decide
  have k_ways : (q0.toList == [119, 97, 121, 115]) = true := by rw [word_is e0]; decide
  have k_coins : (q0.toList == [99, 111, 105, 110, 115]) = false := by rw [word_is e0]; decide
  have HN := Lib.hid (readNumber_spec q1 w1 (by rw [size_of e1]; omega))
  rw [e1] at HN
  have HRL := Lib.hid (readList_spec q2 w1 (by rw [size_of e2]; omega))
  rw [e2] at HRL
  have hrl := read_len b0
  obtain ⟨ls, hls⟩ : ∃ ls, (pieces 44 b0).map readV = ls := ⟨_, rfl⟩
  obtain ⟨x, hx⟩ : ∃ x, readV a0 = x := ⟨_, rfl⟩
  rw [hls] at HRL hrl
  rw [hx] at HN
  have HLS := Lib.hid hls
  have HX := Lib.hid hx
  clear HSP hps o1 hp e0 e1 e2 hls hx
  go_wp2_with fail
  refine HN.out.mono ?_
  rintro e w' ⟨rfl, rfl⟩
  go_wp2_with fail
  refine HRL.out.mono ?_
  rintro e w2 ⟨v2, rfl, o2, b2⟩
  have b12 := b1.trans (b2.mono b1.size)
  have d0 := (b2.cell (p := ⟨b, off, none⟩) (World.block_lt_of_cell? _ _ c0)).trans c0
  have hv := o2.ints
  clear HN HRL b1 b2 o2 c0 c1 c2
  have HSD : Hid (saidV tWays x ls = if waysV ls x < 0 then [] else itoa (waysV ls x)) := by
    show _ = _
    unfold saidV
    rw [if_neg (by decide), if_neg (by decide), if_neg (by decide), if_pos rfl]
  have HWS := Lib.hid (WaysOf_spec v2 ls x w2 hv (by omega))
  by_cases hn : waysV ls x < 0
  · have HW : Hid (orWrong (saidV tWays (readV a0) ((pieces 44 b0).map readV)) = tWrong) := by
      show _ = _
      rw [HX.out, HLS.out]
      exact orWrong_no (by rw [HSD.out, if_pos hn])
    clear HSD
    go_wp2_with (go_at_call 36; refine HWS.out.mono ?_; rintro e w3 ⟨rfl, b3⟩)
    have b13 := b12.trans (b3.mono b12.size)
    go_wp2
    go_ret
    exact ⟨ret_said HW.out, b13⟩
  · have HW : Hid (orWrong (saidV tWays (readV a0) ((pieces 44 b0).map readV)) = itoa (waysV ls x)) := by
      show _ = _
      rw [HX.out, HLS.out]
      exact orWrong_of (by rw [HSD.out, if_neg hn]) (itoa_ne _)
    obtain ⟨hvc, hz, hwv⟩ := ways_in2 hn
    have hle := wy_le (vc_pos hvc) (vc_len hvc).2 hz.2
    rw [← hwv] at hle
    clear hwv hvc hz HSD
    go_wp2_with (go_at_call 36; refine HWS.out.mono ?_; rintro e w3 ⟨rfl, b3⟩)
    have b13 := b12.trans (b3.mono b12.size)
    have HNB := Lib.hid (number_spec (waysV ls x) w3 (by omega) (by omega))
    clear HWS b12 b3
    go_wp2_with (go_at_call 15; refine HNB.out.mono ?_; rintro e w' ⟨rfl, rfl⟩)
    go_ret
    exact ⟨ret_said HW.out, b13⟩

set_option maxRecDepth 100000 in
set_option maxHeartbeats 3200000 in
theorem answer_coins (s : ByteArray) (w : World) (hs : s.size ≤ 1048575) {w0 a0 b0 : List UInt8} (hp : pieces 32 s.data.toList = [w0, a0, b0]) (hw : w0 = tCoins) :
    Calls Tryz.prog 25 #[.string s] w fun e w' => e = .returned (strV (orWrong (saidV w0 (readV a0) ((pieces 44 b0).map readV)))) ∧ Below w.heap.size w w' := by
  have hal : a0.length ≤ s.size := by
    have := (pieces_len 32 s.data.toList).2 a0 (by rw [hp]; simp)
    simpa using this
  have hbl : b0.length ≤ s.size := by
    have := (pieces_len 32 s.data.toList).2 b0 (by rw [hp]; simp)
    simpa using this
  have HSP := Lib.hid (splitAt_spec s 32 w hs)
  subst hw
  go_enter Tryz.func25, Tryz.ntmps25
  go_wp2_with fail
  refine HSP.out.mono ?_
  rintro e w1 ⟨v1, ps, rfl, o1, hps, b1⟩
  rw [hp] at hps
  obtain ⟨q0, q1, q2, rfl, e0, e1, e2⟩ := three_of hps
  obtain ⟨b, off, cap, rfl, c0, c1, c2⟩ := strs_three o1.strs
  have k_rest : (q0.toList == [114, 101, 115, 116]) = false := by rw [word_is e0]; decide
  have k_sums : (q0.toList == [115, 117, 109, 115]) = false := by rw [word_is e0]; decide
  have k_ways : (q0.toList == [119, 97, 121, 115]) = false := by rw [word_is e0]; decide
  have k_coins : (q0.toList == [99, 111, 105, 110, 115]) = true := by rw [word_is e0]; decide
  have HN := Lib.hid (readNumber_spec q1 w1 (by rw [size_of e1]; omega))
  rw [e1] at HN
  have HRL := Lib.hid (readList_spec q2 w1 (by rw [size_of e2]; omega))
  rw [e2] at HRL
  have hrl := read_len b0
  obtain ⟨ls, hls⟩ : ∃ ls, (pieces 44 b0).map readV = ls := ⟨_, rfl⟩
  obtain ⟨x, hx⟩ : ∃ x, readV a0 = x := ⟨_, rfl⟩
  rw [hls] at HRL hrl
  rw [hx] at HN
  have HLS := Lib.hid hls
  have HX := Lib.hid hx
  clear HSP hps o1 hp e0 e1 e2 hls hx
  go_wp2_with fail
  refine HN.out.mono ?_
  rintro e w' ⟨rfl, rfl⟩
  go_wp2_with fail
  refine HRL.out.mono ?_
  rintro e w2 ⟨v2, rfl, o2, b2⟩
  have b12 := b1.trans (b2.mono b1.size)
  have d0 := (b2.cell (p := ⟨b, off, none⟩) (World.block_lt_of_cell? _ _ c0)).trans c0
  have hv := o2.ints
  clear HN HRL b1 b2 o2 c0 c1 c2
  have HSD : Hid (saidV tCoins x ls = if (vCoins ls && inR x 0 120) = true then (if cFew ls x = true then listT (fewL ls x) else tNone) else []) := by
    show _ = _
    unfold saidV
    rw [if_neg (by decide), if_neg (by decide), if_neg (by decide), if_neg (by decide), if_pos rfl]
  have HVS := Lib.hid (validCoins_spec v2 ls w2 hv (by omega))
  cases hc : vCoins ls
  · have HW : Hid (orWrong (saidV tCoins (readV a0) ((pieces 44 b0).map readV)) = tWrong) := by
      show _ = _
      rw [HX.out, HLS.out]
      exact orWrong_no (by rw [HSD.out, hc]; rfl)
    rw [hc] at HVS
    clear HSD
    go_wp2_with (go_at_call 37; refine HVS.out.mono ?_; rintro e w3 ⟨rfl, m, rfl⟩)
    have b13 := below_drewNC b12 b12.size m
    go_wp2
    go_ret
    exact ⟨ret_said HW.out, b13⟩
  · rw [hc] at HVS
    cases hr : inR x 0 120
    · have HW : Hid (orWrong (saidV tCoins (readV a0) ((pieces 44 b0).map readV)) = tWrong) := by
        show _ = _
        rw [HX.out, HLS.out]
        exact orWrong_no (by rw [HSD.out, hc, hr]; rfl)
      clear HSD
      go_wp2_with (go_at_call 37; refine HVS.out.mono ?_; rintro e w3 ⟨rfl, m, rfl⟩)
      have b13 := below_drewNC b12 b12.size m
      go_wp2_with (go_at_call 38; refine (inRange_sat x 0 120 false _ hr).mono ?_; rintro e w' ⟨rfl, rfl⟩)
      go_ret
      exact ⟨ret_said HW.out, b13⟩
    · go_wp2_with (go_at_call 37; refine HVS.out.mono ?_; rintro e w3 ⟨rfl, m, rfl⟩)
      have b13 := below_drewNC b12 b12.size m
      have hv3 := hv.below (below_drewNC (Below.refl w2.heap.size w2) (Nat.le_refl _) m)
      generalize w2.drewN m = w3 at *
      have HFS := Lib.hid (FewestCoins_spec v2 ls x w3 hv3 (by omega))
      obtain ⟨hf, hl5⟩ := fine_few ls x
      cases hcf : cFew ls x
      · have HW : Hid (orWrong (saidV tCoins (readV a0) ((pieces 44 b0).map readV)) = tNone) := by
          show _ = _
          rw [HX.out, HLS.out]
          exact orWrong_of (by rw [HSD.out, hc, hr, hcf]; rfl) (by decide)
        rw [hcf] at HFS
        clear HSD
        go_wp2_with (first | (go_at_call 38; refine (inRange_sat x 0 120 true _ hr).mono ?_; rintro e w' ⟨rfl, rfl⟩) | (go_at_call 39; refine HFS.out.mono ?_; rintro e w4 ⟨v4, rfl, o4, b4⟩))
        have b14 := b13.trans (b4.mono b13.size)
        go_wp2
        go_ret
        exact ⟨ret_said HW.out, b14⟩
      · have hne : fewL ls x ≠ [] := by
          unfold fewL
          rw [if_pos hcf]
          intro e
          have h9 := congrArg List.length e
          rw [fcL_len, List.length_nil] at h9
          have h10 := (vc_len hc).1
          omega
        have HW : Hid (orWrong (saidV tCoins (readV a0) ((pieces 44 b0).map readV)) = listT (fewL ls x)) := by
          show _ = _
          rw [HX.out, HLS.out]
          exact orWrong_of (by rw [HSD.out, hc, hr, hcf]; rfl) (listT_ne hne)
        rw [hcf] at HFS
        clear HSD hne
        go_wp2_with (first | (go_at_call 38; refine (inRange_sat x 0 120 true _ hr).mono ?_; rintro e w' ⟨rfl, rfl⟩) | (go_at_call 39; refine HFS.out.mono ?_; rintro e w4 ⟨v4, rfl, o4, b4⟩))
        have b14 := b13.trans (b4.mono b13.size)
        have HLT := Lib.hid (listText_spec v4 _ w4 o4.ints (by omega) hf)
        clear HFS HVS b13 b4 o4 b12
        go_wp2_with (go_at_call 17; refine HLT.out.mono ?_; rintro e w' ⟨rfl, rfl⟩)
        go_ret
        exact ⟨ret_said HW.out, b14⟩

end Go.Proofs.YtpenbkfchgeafaaGreatDoor

namespace Go.Proofs.YtpenbkfchgeafaaGreatDoor
open Go.RowKit Go.Lib

set_option maxRecDepth 100000 in
set_option maxHeartbeats 1600000 in
theorem answer_other (s : ByteArray) (w : World) (hs : s.size ≤ 1048575) (h2 : (pieces 32 s.data.toList).length ≠ 2) (h3 : (pieces 32 s.data.toList).length ≠ 3) :
    Calls Tryz.prog 25 #[.string s] w fun e w' => e = .returned (strV tWhat) ∧ Below w.heap.size w w' := by
  have HSP := Lib.hid (splitAt_spec s 32 w hs)
  go_enter Tryz.func25, Tryz.ntmps25
  go_wp2_with fail
  refine HSP.out.mono ?_
  rintro e w1 ⟨v1, ps, rfl, o1, hps, b1⟩
  have hl : ps.length = (pieces 32 s.data.toList).length := by rw [← hps, List.length_map]
  rw [← hl] at h2 h3
  obtain ⟨a, cap, rfl, _⟩ := o1.strs
  have k2 : ((ps.length : Int) == 2) = false := by rw [beq_eq_false_iff_ne]; omega
  have k3 : ((ps.length : Int) == 3) = false := by rw [beq_eq_false_iff_ne]; omega
  have l2 : ¬ (ps.length : Int) = 2 := by omega
  have l3 : ¬ (ps.length : Int) = 3 := by omega
  clear HSP hps o1 hl
  go_wp2
  go_ret
  exact ⟨rfl, b1⟩

theorem answer_spec (s : ByteArray) (w : World) (hs : s.size ≤ 1048575) :
    Calls Tryz.prog 25 #[.string s] w fun e w' => e = .returned (strV (modelV s.data.toList)) ∧ Below w.heap.size w w' := by
  unfold modelV
  split
  · rename_i w0 b hp
    split
    · rename_i hw
      subst hw
      exact answer_bill s w hs hp
    · rename_i hw
      exact answer_no2 s w hs hp hw
  · rename_i w0 a b hp
    split
    · rename_i hw
      unfold isTwo at hw
      rw [decide_eq_true_iff] at hw
      rcases hw with h | h | h | h
      · exact answer_rest s w hs hp h
      · exact answer_sums s w hs hp h
      · exact answer_ways s w hs hp h
      · exact answer_coins s w hs hp h
    · rename_i hw
      exact answer_no3 s w hs hp (by simpa using hw)
  · rename_i h1 h2
    refine answer_other s w hs (fun e => ?_) (fun e => ?_)
    · match hp : pieces 32 s.data.toList, e with
      | [x, y], _ => exact h1 x y hp
    · match hp : pieces 32 s.data.toList, e with
      | [x, y, z], _ => exact h2 x y z hp
theorem saidV_len {w : List UInt8} {x : Int} {ls : List Int} : (saidV w x ls).length ≤ 200 := by
  unfold saidV
  split
  · have h := fine_rest x ls
    have := listT_len h.1
    omega
  · split
    · have h := fine_sums x ls
      have := listT_len h.1
      omega
    · split
      · have h := fine_bill ls
        have := listT_len h.1
        omega
      · split
        · split
          · simp
          · rename_i hn
            obtain ⟨hvc, hz, hwv⟩ := ways_in2 hn
            have hle := wy_le (vc_pos hvc) (vc_len hvc).2 hz.2
            rw [← hwv] at hle
            have := itoa_len (n := waysV ls x) (by omega) (by omega)
            omega
        · split
          · split
            · split
              · have h := fine_few ls x
                have := listT_len h.1
                omega
              · decide
            · simp
          · simp
theorem modelV_len (l : List UInt8) : (modelV l).length ≤ 200 := by
  have ho : ∀ m : List UInt8, m.length ≤ 200 → (orWrong m).length ≤ 200 := fun m hm => by
    unfold orWrong
    split
    · decide
    · exact hm
  unfold modelV
  split
  · split
    · exact ho _ saidV_len
    · decide
  · split
    · exact ho _ saidV_len
    · decide
  · decide
end Go.Proofs.YtpenbkfchgeafaaGreatDoor

namespace Go.Proofs.YtpenbkfchgeafaaGreatDoor
open Go.RowKit Go.Lib

/-- The answers to lines. -/
def linesV : List ByteArray → List UInt8
  | [] => []
  | p :: ps => modelV p.data.toList ++ [10] ++ linesV ps
def deskV (ps : List ByteArray) : List UInt8 := if ps.length ≤ 20 then linesV ps else []
theorem linesV_app : ∀ a b : List ByteArray, linesV (a ++ b) = linesV a ++ linesV b
  | [], b => rfl
  | p :: a, b => by simp [linesV, linesV_app a b]
theorem linesV_next {ps : List ByteArray} {k : Nat} (h : k < ps.length) : linesV (ps.take (k + 1)) = linesV (ps.take k) ++ modelV (ps.getD k ByteArray.empty).data.toList ++ [10] := by
  have hg : ps.getD k ByteArray.empty = ps[k] := by simp [List.getD, h]
  rw [List.take_succ_eq_append_getElem h, linesV_app, hg]
  simp [linesV]
theorem linesV_len : ∀ ps : List ByteArray, (linesV ps).length ≤ 201 * ps.length
  | [] => by simp [linesV]
  | p :: ps => by
    have h1 := modelV_len p.data.toList
    have h2 := linesV_len ps
    simp only [linesV, List.length_append, List.length_cons, List.length_nil]
    omega

set_option maxRecDepth 100000 in
set_option maxHeartbeats 1600000 in
theorem RunDesk_spec (v : Value) (ps : List ByteArray) (w : World) (hv : IsStrs w v ps) (hs : ∀ k, k < ps.length → (ps.getD k ByteArray.empty).size ≤ 1048575) :
    Calls Tryz.prog 7 #[v] w fun e w' => e = .returned (strV (deskV ps)) ∧ Below w.heap.size w w' := by
  obtain ⟨a, cap, rfl, hc⟩ := hv
  by_cases h20 : ps.length ≤ 20
  · have hd : Hid (deskV ps = linesV ps) := if_pos h20
    have z20 : ¬ (20 : Int) < (ps.length : Int) := by omega
    go_enter Tryz.func7, Tryz.ntmps7
    go_wp2
    go_loopw [3, 4] (fun o i wr => ∃ k : Nat, k ≤ ps.length ∧ i = .int .i64 k ∧ o = .string ⟨(linesV (ps.take k)).toArray⟩ ∧ Below w.heap.size w wr) (fun _ i _ => ps.length - (intOf i).toNat)
    case atStart => exact ⟨0, Nat.zero_le _, rfl, rfl, Below.refl _ _⟩
    case round =>
      obtain ⟨k, hk, rfl, rfl, hbel⟩ := hrel
      by_cases hlt : k < ps.length
      · obtain ⟨b, off, rfl, hcell⟩ := hc k hlt
        have hcw := (hbel.cell (p := ⟨b, off + k, none⟩) (World.block_lt_of_cell? w _ hcell)).trans hcell
        have HA := Lib.hid (answer_spec (ps.getD k ByteArray.empty) wr (hs k hlt))
        have HX := Lib.hid (linesV_next hlt)
        have hm := modelV_len (ps.getD k ByteArray.empty).data.toList
        have hl : (linesV (ps.take k)).length ≤ 201 * k := by
          have := linesV_len (ps.take k)
          rwa [List.length_take, Nat.min_eq_left hk] at this
        generalize ps.getD k ByteArray.empty = p at *
        generalize modelV p.data.toList = M at *
        generalize hT : linesV (ps.take k) = T at *
        have z1 : ¬ 9223372036854775807 < T.length + M.length := by omega
        have z2 : ¬ 9223372036854775807 < T.length + M.length + 1 := by omega
        have z3 : ¬ 9223372036854775807 < T.length + (M.length + 1) := by omega
        go_wp2_with fail
        refine HA.out.mono ?_
        rintro e w2 ⟨rfl, b2⟩
        have b3 := hbel.trans (b2.mono hbel.size)
        clear hbel b2
        go_wp2
        go_roundw
        case rel => exact ⟨k + 1, by omega, by go_num, by rw [HX.out, ← str_append, ← str_append], b3⟩
        case measure => simp [intOf]; omega
      · have : ps.take k = ps := List.take_of_length_le (by omega)
        rw [this]
        go_wp2
        go_ret
        exact ⟨ret_said hd.out, hbel⟩
  · have hd : Hid (deskV ps = []) := if_neg h20
    have z20 : (20 : Int) < (ps.length : Int) := by omega
    go_enter Tryz.func7, Tryz.ntmps7
    go_wp2
    go_ret
    exact ⟨ret_said hd.out, Below.refl _ _⟩
end Go.Proofs.YtpenbkfchgeafaaGreatDoor

namespace Go.Proofs.YtpenbkfchgeafaaGreatDoor
open Go.RowKit Go.Lib

set_option maxRecDepth 100000 in
set_option maxHeartbeats 1600000 in
theorem szStringS_any (v : Value) (ps : List ByteArray) (left : Nat) (w : World) (hv : IsStrs w v ps) (hl : left ≤ 1048576) (hlen : ps.length ≤ 9223372036854775807) (hb : ∀ k, k < ps.length → (ps.getD k ByteArray.empty).size ≤ 9223372036854775807) :
    Calls Tryz.prog 9 #[v, .int .i64 (left : Int)] w fun e w' => ∃ r : Int, e = .returned (.int .i64 r) ∧ (r < 0 ∨ (ps.length ≤ left ∧ ∀ k, k < ps.length → (ps.getD k ByteArray.empty).size ≤ left - ps.length)) ∧ w = w' := by
  obtain ⟨a, cap, rfl, hc⟩ := hv
  by_cases h0 : ps.length ≤ left
  · have hw0 : IntKind.i64.wrap ((left : Int) - (ps.length : Int)) = ((left - ps.length : Nat) : Int) := by rw [IntWalk.i64_in _ ⟨by omega, by omega⟩]; omega
    have z0 : ¬ (((left - ps.length : Nat) : Int) < 0) := by omega
    have HB := Lib.hid hb
    clear hb
    go_enter Tryz.func9, Tryz.ntmps9
    go_wp2
    go_loop [1, 5] (fun l i => ∃ k m : Nat, k ≤ ps.length ∧ m ≤ left - ps.length ∧ i = .int .i64 k ∧ l = .int .i64 (m : Int) ∧ ∀ j, j < k → (ps.getD j ByteArray.empty).size ≤ left - ps.length) (fun _ i => ps.length - (intOf i).toNat)
    case atStart => exact ⟨0, left - ps.length, Nat.zero_le _, by omega, rfl, by first | rfl | (congr 1; omega), fun j hj => by omega⟩
    case round =>
      obtain ⟨k, m, hk, hm, rfl, rfl, hall⟩ := hrel
      have HA := Lib.hid hall
      clear hall
      by_cases hlt : k < ps.length
      · obtain ⟨b, off, rfl, hcell⟩ := hc k hlt
        have hs := HB.out k hlt
        have HG : Hid (∀ q, (ps.getD k ByteArray.empty) = q → q.size ≤ left - ps.length → ∀ j, j < k + 1 → (ps.getD j ByteArray.empty).size ≤ left - ps.length) := fun q hq hql j hj => by
          by_cases e : j = k
          · subst e; rw [hq]; exact hql
          · exact HA.out j (by omega)
        generalize hp : ps.getD k ByteArray.empty = p at *
        by_cases hn : p.size ≤ m
        · have hw : IntKind.i64.wrap ((m : Int) - (p.size : Int)) = ((m - p.size : Nat) : Int) := by rw [IntWalk.i64_in _ ⟨by omega, by omega⟩]; omega
          have z : ¬ (m : Int) - (p.size : Int) < 0 := by omega
          clear hp
          go_wp2
          go_round
          case rel => exact ⟨k + 1, m - p.size, by omega, by omega, by go_num, by first | rfl | (congr 1; omega), HG.out p rfl (by omega)⟩
          case measure => simp [intOf]; omega
        · have z : (m : Int) - (p.size : Int) < 0 := by omega
          clear hp
          go_wp2
          go_ret
          exact ⟨-1, rfl, .inl (by omega), rfl⟩
      · have hke : k = ps.length := by omega
        subst hke
        go_wp2
        go_ret
        exact ⟨_, rfl, .inr (fun k hk => by have := HA.out k hk; rwa [List.getD_eq_getElem?_getD] at this), rfl⟩
  · have z0 : (left : Int) - (ps.length : Int) < 0 := by omega
    go_enter Tryz.func9, Tryz.ntmps9
    go_wp2
    go_ret
    exact ⟨-1, rfl, .inl (by omega), rfl⟩
end Go.Proofs.YtpenbkfchgeafaaGreatDoor

namespace Go.Proofs.YtpenbkfchgeafaaGreatDoor
open Go.RowKit

theorem set_fillS (xs : List ByteArray) (k : Nat) (h : k < xs.length) :
    ((xs.take k).map Value.string ++ List.replicate (xs.length - k) (Value.string ByteArray.empty)).set k (.string xs[k]) = (xs.take (k + 1)).map Value.string ++ List.replicate (xs.length - (k + 1)) (Value.string ByteArray.empty) := by
  have e : xs.length - k = (xs.length - (k + 1)) + 1 := by omega
  rw [e, List.replicate_succ, List.take_succ_eq_append_getElem h, List.map_append, List.append_assoc]
  have hl : ((xs.take k).map Value.string).length = k := by simp; omega
  rw [List.set_append_right _ _ (by omega), hl, Nat.sub_self]
  rfl

theorem take_eq_ofS (xs ys : List ByteArray) (k : Nat) (h : k < xs.length) (h' : k < ys.length) (e : xs.take k = ys.take k) (he : xs[k] = ys[k]) : xs.take (k + 1) = ys.take (k + 1) := by
  rw [List.take_succ_eq_append_getElem h, List.take_succ_eq_append_getElem h', e, he]


set_option maxHeartbeats 800000 in
theorem toStringS_any (v : Value) (xs : List ByteArray) (w : World) (hv : IsStrs w v xs) (hl : xs.length ≤ 1048576) :
    Calls Tryz.prog 10 #[v] w fun e w' => ∃ v', e = .returned v' ∧ OwnStr w' w.heap.size v' xs ∧ Below w.heap.size w w' := by
  have hv' := hv
  obtain ⟨a, cap, rfl, hc⟩ := hv
  obtain ⟨i0, hi, hz0, hz1, hz2⟩ := info_parts infoStr
  go_enter Tryz.func10, Tryz.ntmps10
  go_wp2_with (at_make; refine wpList_make_full _ rfl _ _ 23 rfl w.heap.size 9 i0 (.string ByteArray.empty) 1 Tryz.underlying23 hi hz0 hz1 _ _ _ _ xs.length rfl rfl rfl rfl ?b2 ?b3 (Nat.le_refl _) ?_)
  case b2 => rw [hz2]; omega
  case b3 => unfold maxLen; omega
  intro w0 hown0 hgrow0
  have hb0 : Below w.heap.size w w0 := below_grown hgrow0 (Nat.le_refl _) (fun k h => by cases h)
  have hsz : w.heap.size ≤ w0.heap.size := hb0.size
  have hw0 : w0.ownsRow w.heap.size 9 1 (.slice (some ⟨w.heap.size, 0, none⟩) xs.length xs.length) xs.length ((xs.take 0).map Value.string ++ List.replicate (xs.length - 0) (Value.string ByteArray.empty)) := by
    rw [toList_madeCells_one] at hown0
    simpa using hown0
  clear hown0 hgrow0
  go_wp2
  go_loopw [4] (fun i wr => ∃ k : Nat, k ≤ xs.length ∧ i = .int .i64 k ∧ wr.ownsRow w.heap.size 9 1 (.slice (some ⟨w.heap.size, 0, none⟩) xs.length xs.length) xs.length ((xs.take k).map Value.string ++ List.replicate (xs.length - k) (Value.string ByteArray.empty)) ∧ Below w.heap.size w wr)
    (fun i _ => xs.length - (intOf i).toNat)
  case atStart => exact ⟨0, Nat.zero_le _, rfl, hw0, hb0⟩
  case round =>
    obtain ⟨k, hk, rfl, hown, hbel⟩ := hrel
    by_cases hlt : k < xs.length
    · obtain ⟨b, off, rfl, hcell0⟩ := hc k hlt
      have hbb : b < w.heap.size := World.block_lt_of_cell? w _ hcell0
      have hcell : wr.cell? ⟨b, off + k, none⟩ = some (.string (xs.getD k ByteArray.empty)) := (hbel.cell (by exact hbb)).trans hcell0
      have hdst : wr.cell? ⟨w.heap.size, k, none⟩ = some (.string ByteArray.empty) := by
        rw [hown.cellAt k (by omega), List.getElem?_append_right (by simp; omega)]
        have : k - ((xs.take k).map Value.string).length = 0 := by simp; omega
        rw [this, List.getElem?_replicate, if_pos (by omega)]
      have hfr : wr.frozen? ⟨w.heap.size, k, none⟩ = false := hown.frozenAt k
      have hst := hown.stored k (.string xs[k])
      rw [set_fillS xs k hlt] at hst
      have hb2 : Below w.heap.size w (wr.setCell ⟨w.heap.size, k, none⟩ (.string xs[k])) := hbel.setCell (by exact Nat.le_refl _) _
      have H1 := Lib.hid hst.1
      clear hst hc hv'
      go_wp2
      go_roundw
      case rel => exact ⟨k + 1, by omega, by go_num, H1.out, hb2⟩
      case measure => simp [intOf]; omega
    · have hk2 : k = xs.length := by omega
      have H1 : OwnStr wr w.heap.size (.slice (some ⟨w.heap.size, 0, none⟩) xs.length xs.length) xs := by
        unfold OwnStr
        rw [hk2] at hown
        simpa using hown
      go_wp2
      go_ret
      exact ⟨_, rfl, H1, hbel⟩

set_option maxHeartbeats 800000 in
theorem eqStringS_any (va vb : Value) (xs ys : List ByteArray) (w : World) (ha : IsStrs w va xs) (hb : IsStrs w vb ys) (hl : xs.length ≤ 9223372036854775807) :
    Calls Tryz.prog 11 #[va, vb] w fun e w' => e = .returned (.bool (decide (xs = ys))) ∧ Below w.heap.size w w' := by
  obtain ⟨a, cap, rfl, hc⟩ := ha
  obtain ⟨a2, cap2, rfl, hc2⟩ := hb
  by_cases hlen : xs.length = ys.length
  · have hne : ((xs.length : Int) != (ys.length : Int)) = false := by simp; omega
    go_enter Tryz.func11, Tryz.ntmps11
    go_wp2
    go_loopw [5] (fun i wr => ∃ k : Nat, k ≤ xs.length ∧ i = .int .i64 k ∧ xs.take k = ys.take k ∧ Below w.heap.size w wr) (fun i _ => xs.length - (intOf i).toNat)
    case atStart => exact ⟨0, Nat.zero_le _, rfl, rfl, Below.refl _ _⟩
    case round =>
      obtain ⟨k, hk, rfl, htk, hbel⟩ := hrel
      have HT := Lib.hid htk
      have HL := Lib.hid hlen
      clear htk
      by_cases hlt : k < xs.length
      · have hlt2 : k < ys.length := by omega
        obtain ⟨b, off, rfl, hcell0⟩ := hc k hlt
        obtain ⟨b2, off2, rfl, hcell1⟩ := hc2 k hlt2
        have hcell : wr.cell? ⟨b, off + k, none⟩ = some (.string xs[k]) := by
          rw [show xs[k] = xs.getD k ByteArray.empty by simp [List.getD, hlt]]
          exact (hbel.cell (by exact World.block_lt_of_cell? w _ hcell0)).trans hcell0
        have hcell' : wr.cell? ⟨b2, off2 + k, none⟩ = some (.string ys[k]) := by
          rw [show ys[k] = ys.getD k ByteArray.empty by simp [List.getD, hlt2]]
          exact (hbel.cell (by exact World.block_lt_of_cell? w _ hcell1)).trans hcell1
        have hkl : (k : Int) < (xs.length : Int) := by omega
        have hkl2 : (k : Int) < (ys.length : Int) := by omega
        clear hc hc2 hlen hcell0 hcell1
        by_cases heq : xs[k] = ys[k]
        · have hn : (xs[k].toList == ys[k].toList) = true := by rw [heq]; exact beq_self_eq_true _
          have HE := Lib.hid heq
          clear heq
          go_wp2
          go_quiet (fail)
          go_wp2
          go_roundw
          case rel => exact ⟨k + 1, by omega, by go_num, take_eq_ofS xs ys k hlt hlt2 HT.out HE.out, below_drewNC hbel hbel.size _⟩
          case measure => simp [intOf]; omega
        · have hn : (xs[k].toList == ys[k].toList) = false := by rw [ByteArray.toList_eq, ByteArray.toList_eq]; exact beq_eq_false_iff_ne.2 fun e => heq (ByteArray.ext (Array.toList_inj.1 e))
          go_wp2
          go_quiet (fail)
          go_wp2
          go_ret
          refine ⟨ret_bool ?_, below_drewNC hbel hbel.size _⟩
          symm
          rw [decide_eq_false_iff_not]
          intro h
          exact heq (by simp only [h])
      · clear hlen
        go_wp2
        go_ret
        refine ⟨ret_bool ?_, hbel⟩
        symm
        rw [decide_eq_true_iff]
        have := HT.out
        rwa [List.take_of_length_le (by omega), List.take_of_length_le (by rw [← HL.out]; omega)] at this
  · have hne : ((xs.length : Int) != (ys.length : Int)) = true := by simp; omega
    go_enter Tryz.func11, Tryz.ntmps11
    go_wp2
    go_ret
    refine ⟨ret_bool ?_, Below.refl _ _⟩
    symm
    rw [decide_eq_false_iff_not]
    intro h
    exact hlen (by rw [h])

end Go.Proofs.YtpenbkfchgeafaaGreatDoor

namespace Go.Proofs.YtpenbkfchgeafaaGreatDoor
open Go.RowKit Go.Lib

set_option maxRecDepth 100000 in
theorem newlines_any (s : ByteArray) (w : World) (hs : s.size ≤ 1048576) :
    Calls Tryz.prog 8 #[.string s] w fun e w' => e = .returned (.int .i64 (s.data.toList.count 10 : Nat)) ∧ w = w' := by
  go_enter Tryz.func8, Tryz.ntmps8
  go_wp2
  go_loop [3, 4] (fun n i => ∃ k m : Nat, k ≤ s.size ∧ m ≤ k ∧ i = .int .i64 k ∧ n = .int .i64 m ∧ m = (s.data.toList.take k).count 10) (fun _ i => s.size - (intOf i).toNat)
  case atStart => exact ⟨0, 0, Nat.zero_le _, Nat.le_refl _, rfl, rfl, rfl⟩
  case round =>
    obtain ⟨k, m, hk, hm, rfl, rfl, hcut⟩ := hrel
    by_cases hlt : k < s.size
    · have h1 : (k : Int) < (s.size : Int) := by omega
      obtain ⟨hk2, hb⟩ := byte_at s k hlt
      have HT : Hid ((s.data.toList.take (k + 1)).count 10 = m + if s[k] = 10 then 1 else 0) := Lib.hid (by
        rw [List.take_succ_eq_append_getElem hk2, List.count_append, ← hcut, List.count_singleton, hb]
        by_cases e : s[k] = 10
        · rw [if_pos e, if_pos (by rw [e]; rfl)]
        · rw [if_neg e, if_neg (by simpa using e)])
      clear hcut
      by_cases hc : s[k] = 10
      · have hc2 : (s[k].toNat : Int) = 10 := by rw [hc]; rfl
        have HC : Hid ((s.data.toList.take (k + 1)).count 10 = m + 1) := HT.out.trans (by rw [if_pos hc])
        clear hc HT
        go_wp2
        go_round
        case rel => exact ⟨k + 1, m + 1, by omega, by omega, by go_num, by go_num, HC.out.symm⟩
        case measure => simp [intOf]; omega
      · have hc2 : ¬ (s[k].toNat : Int) = 10 := fun e => hc (UInt8.toNat_inj.1 (by rw [show (10 : UInt8).toNat = 10 from rfl]; omega))
        have HC : Hid ((s.data.toList.take (k + 1)).count 10 = m) := HT.out.trans (by rw [if_neg hc]; rfl)
        clear hc HT
        go_wp2
        go_round
        case rel => exact ⟨k + 1, m, by omega, by omega, by go_num, rfl, HC.out.symm⟩
        case measure => simp [intOf]; omega
    · have hke : k = s.size := by omega
      subst hke
      have HC := Lib.hid hcut
      clear hcut
      go_wp2
      go_ret
      refine ⟨?_, rfl⟩
      have := HC.out
      rw [List.take_of_length_le (by simp)] at this
      rw [this]
      exact congrArg (fun c : Nat => Ending.returned (Value.int .i64 (c : Int))) (Array.count_toList (xs := s.data) (a := 10))

theorem digits_noNL (u : Nat) : ∀ b ∈ decDigits u, b ≠ 10 := by
  intro b hb
  rw [decDigits_eq] at hb
  obtain ⟨t, _, rfl⟩ := List.mem_map.1 hb
  intro e
  have h1 : dg u (nDigits u - 1 - t) = UInt8.ofNat (48 + u / 10 ^ (nDigits u - 1 - t) % 10) := rfl
  rw [h1] at e
  have h2 := congrArg UInt8.toNat e
  have h3 : u / 10 ^ (nDigits u - 1 - t) % 10 < 10 := Nat.mod_lt _ (by omega)
  rw [digit_val h3] at h2
  have h4 : (10 : UInt8).toNat = 10 := rfl
  omega
theorem itoa_noNL (n : Int) : ∀ b ∈ itoa n, b ≠ 10 := by
  intro b hb
  unfold itoa at hb
  split at hb
  · rcases List.mem_cons.1 hb with rfl | h
    · decide
    · exact digits_noNL _ b h
  · exact digits_noNL _ b hb
theorem joinTail_noNL : ∀ xs : List Int, ∀ b ∈ joinTail [44] (xs.map itoa), b ≠ 10
  | [] => fun b hb => by cases hb
  | x :: r => fun b hb => by
    have hb2 : b ∈ ([44] ++ itoa x) ++ joinTail [44] (r.map itoa) := hb
    rcases List.mem_append.1 hb2 with h | h
    · rcases List.mem_append.1 h with h1 | h1
      · rcases List.mem_singleton.1 h1 with rfl
        decide
      · exact itoa_noNL x b h1
    · exact joinTail_noNL r b h
theorem listT_noNL (xs : List Int) : ∀ b ∈ listT xs, b ≠ 10 := by
  intro b hb
  unfold listT at hb
  cases xs with
  | nil => cases hb
  | cons x r =>
    rw [List.map_cons, join_cons] at hb
    rcases List.mem_append.1 hb with h | h
    · exact itoa_noNL x b h
    · exact joinTail_noNL r b h
theorem lit_noNL {l : List UInt8} (h : l.all (fun b => b != 10) = true) : ∀ b ∈ l, b ≠ 10 := fun b hb => by simpa using List.all_eq_true.1 h b hb
theorem said_noNL (w : List UInt8) (x : Int) (ls : List Int) : ∀ b ∈ saidV w x ls, b ≠ 10 := by
  unfold saidV
  split
  · exact listT_noNL _
  split
  · exact listT_noNL _
  split
  · exact listT_noNL _
  split
  · split
    · exact lit_noNL rfl
    · exact itoa_noNL _
  split
  · split
    · split
      · exact listT_noNL _
      · exact lit_noNL rfl
    · exact lit_noNL rfl
  · exact lit_noNL rfl
theorem orWrong_noNL {l : List UInt8} (h : ∀ b ∈ l, b ≠ 10) : ∀ b ∈ orWrong l, b ≠ 10 := by
  unfold orWrong
  split
  · exact lit_noNL rfl
  · exact h
theorem model_noNL (l : List UInt8) : ∀ b ∈ modelV l, b ≠ 10 := by
  unfold modelV
  split
  · split
    · exact orWrong_noNL (said_noNL _ _ _)
    · exact lit_noNL rfl
  · split
    · exact orWrong_noNL (said_noNL _ _ _)
    · exact lit_noNL rfl
  · exact lit_noNL rfl
theorem linesV_count : ∀ ps : List ByteArray, (linesV ps).count 10 = ps.length
  | [] => rfl
  | p :: ps => by
    have h0 : (modelV p.data.toList).count 10 = 0 := List.count_eq_zero.2 fun h => model_noNL _ 10 h rfl
    simp only [linesV, List.count_append, linesV_count ps, h0, List.length_cons]
    simp
    omega
theorem linesV_split (ps : List ByteArray) (k : Nat) : linesV ps = linesV (ps.take k) ++ linesV (ps.drop k) := by
  rw [← linesV_app, List.take_append_drop]
theorem linesV_prefix (ps : List ByteArray) (k : Nat) : (linesV ps).take (linesV (ps.take k)).length = linesV (ps.take k) := by
  rw [linesV_split ps k, List.take_append_of_le_length (Nat.le_refl _), List.take_length]
theorem linesV_le (ps : List ByteArray) (k : Nat) : (linesV (ps.take k)).length ≤ (linesV ps).length := by
  have := congrArg List.length (linesV_split ps k)
  rw [List.length_append] at this
  omega
theorem linesV_nil {ps : List ByteArray} : linesV ps = [] ↔ ps = [] := by
  constructor
  · intro h
    have := linesV_count ps
    rw [h] at this
    exact List.length_eq_zero_iff.1 this.symm
  · rintro rfl
    rfl
end Go.Proofs.YtpenbkfchgeafaaGreatDoor
