/- The reader of codes by which arguments are drawn: contracts of its methods. -/
import Derived.Test.YtfgafbjofkicdaaPush
import Derived.Laws.BitsAllLaws
import Derived.Laws.BitsLemmas
import Derived.IntWalk
import Derived.Outline
namespace Go.Proofs.Ytfgafbjofkicdaa
open Go.RowKit

/-- n bytes lie at a. -/
def IsBytes (w : World) (a : Option Addr) (n : Nat) : Prop := ∀ j, j < n → ∃ (b off : Nat) (x : Int), a = some ⟨b, off, none⟩ ∧ w.cell? ⟨b, off + j, none⟩ = some (.int .u8 x) ∧ 0 ≤ x ∧ x ≤ 255

/-- The block R is a reader of n bytes at a, of which p numbers have been picked; the bytes lie below B, which is at most R. -/
structure IsReader (w : World) (B R : Nat) (a : Option Addr) (n cap p : Nat) : Prop where
  block : w.heap[R]? = some (.cells #[.slice a n cap, .int .i64 p] 73 (0, 0))
  bytes : IsBytes w a n
  low : ∀ b, a.map Addr.block = some b → 0 < n → b < B
  base : B ≤ R
  len : n ≤ 2000

theorem IsBytes.below {w w' : World} {B : Nat} {a : Option Addr} {n : Nat} (h : IsBytes w a n) (hb : Below B w w') (hl : ∀ b, a.map Addr.block = some b → 0 < n → b < B) : IsBytes w' a n := by
  intro j hj
  obtain ⟨b, off, x, ha, hc, hx⟩ := h j hj
  refine ⟨b, off, x, ha, ?_, hx⟩
  exact (hb.cell (by exact hl b (by rw [ha]; rfl) (by omega))).trans hc

theorem ofInt_i64 (a : Nat) (ha : a < 9223372036854775808) : (BitVec.ofInt 64 (a : Int)).toNat = a := by
  rw [BitVec.ofInt_natCast, BitVec.toNat_ofNat]; exact Nat.mod_eq_of_lt (by omega)
theorem i64_xor_nat (a b : Nat) (ha : a < 9223372036854775808) (hb : b < 9223372036854775808) : bits .xor .i64 (a : Int) (b : Int) = ((a ^^^ b : Nat) : Int) := by
  have hx : a ^^^ b < 2 ^ 63 := Nat.xor_lt_two_pow (by omega) (by omega)
  show IntKind.i64.wrap ((BitVec.ofInt 64 (a : Int) ^^^ BitVec.ofInt 64 (b : Int)).toNat : Int) = _
  rw [BitVec.toNat_xor, ofInt_i64 a ha, ofInt_i64 b hb, IntKind.wrap_i64]
  omega

theorem xor_nonneg (x y : Int) (h0 : 0 ≤ x) (h1 : x ≤ 4294967296) (h2 : 0 ≤ y) (h3 : y ≤ 4294967296) : 0 ≤ bits .xor .i64 x y := by
  obtain ⟨a, rfl⟩ : ∃ a : Nat, x = a := ⟨x.toNat, by omega⟩
  obtain ⟨b, rfl⟩ : ∃ b : Nat, y = b := ⟨y.toNat, by omega⟩
  rw [i64_xor_nat a b (by omega) (by omega)]
  omega

/-- What a pick hands back: a number from 0 up to less than n, 0 for n below 1. -/
def Picked (n y : Int) : Prop := 0 ≤ y ∧ (1 ≤ n → y < n) ∧ (n < 1 → y = 0)

theorem reader_stored {w : World} {B R : Nat} {a : Option Addr} {n cap p : Nat} (h : IsReader w B R a n cap p) :
    IsReader (w.setCell ⟨R, 1, none⟩ (.int .i64 ((p : Int) + 1))) B R a n cap (p + 1) ∧ w.grownBy (w.setCell ⟨R, 1, none⟩ (.int .i64 ((p : Int) + 1))) (some R) := by
  have hg : w.grownBy (w.setCell ⟨R, 1, none⟩ (.int .i64 ((p : Int) + 1))) (some R) := ⟨rfl, rfl, rfl, by simp, fun k _ hk => heap_setCell_other w ⟨R, 1, none⟩ k _ (fun e => hk (by simp [e]))⟩
  refine ⟨⟨?_, ?_, h.low, h.base, h.len⟩, hg⟩
  · rw [heap_setCell_same w R 1 _ _ _ h.block]
    simp
  · exact h.bytes.below (below_grown hg (by have := h.base; have := (Array.getElem?_eq_some_iff.1 h.block).1; omega) (fun k hk => by cases hk; exact h.base)) h.low

theorem IsReader.drewN {w : World} {B R : Nat} {a : Option Addr} {n cap p : Nat} (h : IsReader w B R a n cap p) (q : Nat) : IsReader (w.drewN q) B R a n cap p := ⟨h.block, h.bytes, h.low, h.base, h.len⟩
theorem grown_drewN {w w' : World} {row : Option Nat} (h : w.grownBy w' row) (q : Nat) : w.grownBy (w'.drewN q) row := ⟨h.os, h.tape, h.output, h.size, h.block⟩

/-- A reader where only other blocks have turned. -/
theorem IsReader.kept {w w' : World} {B R : Nat} {a : Option Addr} {n cap p : Nat} {row : Option Nat} (h : IsReader w B R a n cap p) (hg : w.grownBy w' row) (hr : ∀ k, row = some k → B ≤ k ∧ k ≠ R) : IsReader w' B R a n cap p := by
  have hlt := (Array.getElem?_eq_some_iff.1 h.block).1
  refine ⟨?_, h.bytes.below (below_grown hg (by have := h.base; omega) (fun k hk => (hr k hk).1)) h.low, h.low, h.base, h.len⟩
  rw [hg.block R hlt (fun e => (hr R e.symm).2 rfl)]
  exact h.block

theorem IsReader.later {w w' : World} {B R : Nat} {a : Option Addr} {n cap p : Nat} (h : IsReader w B R a n cap p) (hb : Below w.heap.size w w') : IsReader w' B R a n cap p :=
  h.kept (grown_below hb none) (fun k hk => by cases hk)

set_option maxHeartbeats 1600000 in
theorem pick_any (n : Int) (B R : Nat) (a : Option Addr) (len cap p : Nat) (w : World) (h : IsReader w B R a len cap p) (hp : p ≤ 1000000) (hn : -1000000 ≤ n ∧ n ≤ 1000000) :
    Calls Try.prog 56 #[.pointer (some ⟨R, 0, none⟩), .int .i64 n] w fun e w' => ∃ y, e = .returned (.int .i64 y) ∧ Picked n y ∧ IsReader w' B R a len cap (p + 1) ∧ w.grownBy w' (some R) := by
  have c0 : w.cell? ⟨R, 0, none⟩ = some (.slice a len cap) := by rw [cell_of_row w R 0 _ _ _ h.block]; rfl
  have c1 : w.cell? ⟨R, 1, none⟩ = some (.int .i64 p) := by rw [cell_of_row w R 1 _ _ _ h.block]; rfl
  have hfr : w.frozen? ⟨R, 1, none⟩ = false := frozen_of_row w R 1 _ _ h.block
  have hst := reader_stored h
  have H1 := Lib.hid hst.1
  have H2 := Lib.hid hst.2
  have hlen := h.len
  have hby := h.bytes.below (below_grown hst.2 (by have := h.base; have := (Array.getElem?_eq_some_iff.1 h.block).1; omega) (fun k hk => by cases hk; exact h.base)) h.low
  clear hst h
  by_cases hn1 : n < 1
  · have hd : decide (n < 1) = true := decide_eq_true hn1
    go_enter Try.func56, Try.ntmps56
    go_wp2
    go_ret
    exact ⟨0, rfl, ⟨by omega, fun h => by omega, fun _ => rfl⟩, H1.out, H2.out⟩
  · have hd : decide (n < 1) = false := decide_eq_false hn1
    by_cases hz : len = 0
    · have hzz : ((len : Int) == 0) = true := by simp [hz]
      go_enter Try.func56, Try.ntmps56
      have HZ := Lib.hid hz
      clear hz
      go_wp2
      go_ret
      exact ⟨0, rfl, ⟨by omega, fun h => by omega, fun _ => rfl⟩, H1.out, H2.out⟩
    · have hzz : ((len : Int) == 0) = false := by simp [hz]
      have hl0 : 0 < len := by omega
      by_cases hk : p < len
      · obtain ⟨b, off, x, rfl, hc, hx0, hx1⟩ := hby p hk
        have hm0 := Int.emod_nonneg x (show n ≠ 0 by omega)
        have hm1 := Int.emod_lt_of_pos x (show 0 < n by omega)
        clear hby
        go_enter Try.func56, Try.ntmps56
        go_wp2
        go_ret
        exact ⟨_, rfl, ⟨hm0, fun _ => hm1, fun h => by omega⟩, H1.out, H2.out⟩
      · obtain ⟨b, off, x, rfl, hc, hx0, hx1⟩ := hby (p % len) (Nat.mod_lt _ hl0)
        obtain ⟨b2, off2, y, e2, hc2, hy0, hy1⟩ := hby ((p * 7 + 3) % len) (Nat.mod_lt _ hl0)
        simp only [Option.some.injEq, Addr.mk.injEq, and_true] at e2
        obtain ⟨rfl, rfl⟩ := e2
        have q1 : (p : Int) % (len : Int) < (len : Int) := Int.emod_lt_of_pos _ (by omega)
        have q2 : ((p : Int) * 7 + 3) % (len : Int) < (len : Int) := Int.emod_lt_of_pos _ (by omega)
        have q3 : 0 ≤ (p : Int) % (len : Int) := Int.emod_nonneg _ (by omega)
        have q4 : 0 ≤ ((p : Int) * 7 + 3) % (len : Int) := Int.emod_nonneg _ (by omega)
        have d0 : 0 ≤ (p : Int) / (len : Int) := Int.ediv_nonneg (by omega) (by omega)
        have d1 : (p : Int) / (len : Int) ≤ p := Int.ediv_le_self _ (by omega)
        clear hby
        go_enter Try.func56, Try.ntmps56
        go_wp2
        go_quiet (fail)
        have e0 : 0 ≤ x * 131 + y * 1117 + (p : Int) * 29 + (p : Int) / (len : Int) * 53 := by omega
        have e1 : x * 131 + y * 1117 + (p : Int) * 29 + (p : Int) / (len : Int) * 53 ≤ 4294967296 := by omega
        generalize x * 131 + y * 1117 + (p : Int) * 29 + (p : Int) / (len : Int) * 53 = E at e0 e1 ⊢
        have hx := xor_nonneg E (E / 64) e0 e1 (by omega) (by omega)
        have hm0 := Int.emod_nonneg (bits .xor .i64 E (E / 64)) (show n ≠ 0 by omega)
        have hm1 := Int.emod_lt_of_pos (bits .xor .i64 E (E / 64)) (show 0 < n by omega)
        go_wp2
        go_ret
        exact ⟨_, rfl, ⟨hm0, fun _ => hm1, fun h => by omega⟩, H1.out.drewN _, grown_drewN H2.out _⟩

set_option maxHeartbeats 800000 in
/-- One of the numbers of a list that lies in no reader's block. -/
theorem one_any (v : Value) (xs : List Int) (B R : Nat) (a : Option Addr) (len cap p : Nat) (w : World) (h : IsReader w B R a len cap p) (hp : p ≤ 1000000) (hv : IsInts w v xs) (hne : v.ownBlock ≠ some R) (hl0 : 0 < xs.length) (hl : xs.length ≤ 1000000) :
    Calls Try.prog 55 #[.pointer (some ⟨R, 0, none⟩), v] w fun e w' => ∃ y, e = .returned (.int .i64 y) ∧ y ∈ xs ∧ IsReader w' B R a len cap (p + 1) ∧ w.grownBy w' (some R) := by
  obtain ⟨a2, cap2, rfl, hc⟩ := hv
  have hpk := pick_any (xs.length : Int) B R a len cap p w h hp (by omega)
  have HP := Lib.hid hpk
  clear hpk
  go_enter Try.func55, Try.ntmps55
  go_wp2_with fail
  refine HP.out.mono ?_
  rintro e w1 ⟨y, rfl, ⟨hy0, hy1, _⟩, hrd, hg⟩
  have hyl := hy1 (by omega)
  obtain ⟨j, rfl⟩ : ∃ j : Nat, y = j := ⟨y.toNat, by omega⟩
  have hj : j < xs.length := by omega
  obtain ⟨b, off, rfl, hcell⟩ := hc j hj
  have hbR : some b ≠ some R := by simpa [Value.ownBlock] using hne
  have hcell1 : w1.cell? ⟨b, off + j, none⟩ = some (.int .i64 (xs.getD j 0)) := hg.cell hcell hbR
  have hmem : xs.getD j 0 ∈ xs := by simp [List.getD, hj]
  have HM := Lib.hid hmem
  clear hc hmem hcell hy1
  go_wp2
  go_ret
  exact ⟨_, rfl, by simp, hrd, hg⟩

end Go.Proofs.Ytfgafbjofkicdaa
