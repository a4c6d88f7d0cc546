/- Readers of which some numbers have been picked; one of a list. -/
import Derived.Test.YtfgafbjofkicdaaReader
import Derived.Deep.LoopGhost
namespace Go.Proofs.Ytfgafbjofkicdaa
open Go.RowKit

theorem own_lit (w : World) (B : Nat) (xs : List Int) (cs : Array Value) (hcs : cs.toList = xs.map (Value.int .i64)) (hB : B ≤ w.heap.size) (hl : xs.length ≤ 1048576) : Own (w.alloc (.cells cs 3)) B (sl w.heap.size xs.length xs.length) xs := by
  have h := World.ownsRow_lit (e := 3) (size := 1) w cs xs.length hB (by unfold maxLen; omega) (by rw [← Array.length_toList, hcs]; simp)
  rw [hcs] at h
  exact h

/-- A reader of which at most q numbers have been picked. -/
def HasReader (w : World) (B R : Nat) (a : Option Addr) (q : Nat) : Prop := ∃ n cap p, IsReader w B R a n cap p ∧ p ≤ q

theorem HasReader.more {w : World} {B R : Nat} {a : Option Addr} {q q' : Nat} (h : HasReader w B R a q) (hq : q ≤ q') : HasReader w B R a q' := by
  obtain ⟨n, cap, p, hr, hp⟩ := h
  exact ⟨n, cap, p, hr, by omega⟩
theorem HasReader.kept {w w' : World} {B R : Nat} {a : Option Addr} {q : Nat} {row : Option Nat} (h : HasReader w B R a q) (hg : w.grownBy w' row) (hr : ∀ k, row = some k → B ≤ k ∧ k ≠ R) : HasReader w' B R a q := by
  obtain ⟨n, cap, p, hrd, hp⟩ := h
  exact ⟨n, cap, p, hrd.kept hg hr, hp⟩
theorem HasReader.later {w w' : World} {B R : Nat} {a : Option Addr} {q : Nat} (h : HasReader w B R a q) (hb : Below w.heap.size w w') : HasReader w' B R a q :=
  h.kept (grown_below hb none) (fun k hk => by cases hk)
theorem HasReader.lt {w : World} {B R : Nat} {a : Option Addr} {q : Nat} (h : HasReader w B R a q) : B ≤ R ∧ R < w.heap.size := by
  obtain ⟨n, cap, p, hrd, hp⟩ := h
  exact ⟨hrd.base, (Array.getElem?_eq_some_iff.1 hrd.block).1⟩

theorem pick_has (n : Int) (B R : Nat) (a : Option Addr) (q : Nat) (w : World) (h : HasReader w B R a q) (hq : q ≤ 1000000) (hn : -1000000 ≤ n ∧ n ≤ 1000000) :
    Calls Try.prog 56 #[.pointer (some ⟨R, 0, none⟩), .int .i64 n] w fun e w' => ∃ y, e = .returned (.int .i64 y) ∧ Picked n y ∧ HasReader w' B R a (q + 1) ∧ w.grownBy w' (some R) := by
  obtain ⟨len, cap, p, hr, hp⟩ := h
  refine (pick_any n B R a len cap p w hr (by omega) hn).mono ?_
  rintro e w' ⟨y, he, hy, hr', hg⟩
  exact ⟨y, he, hy, ⟨len, cap, p + 1, hr', by omega⟩, hg⟩

theorem one_has (v : Value) (xs : List Int) (B R : Nat) (a : Option Addr) (q : Nat) (w : World) (h : HasReader w B R a q) (hq : q ≤ 1000000) (hv : IsInts w v xs) (hne : v.ownBlock ≠ some R) (hl0 : 0 < xs.length) (hl : xs.length ≤ 1000000) :
    Calls Try.prog 55 #[.pointer (some ⟨R, 0, none⟩), v] w fun e w' => ∃ y, e = .returned (.int .i64 y) ∧ y ∈ xs ∧ HasReader w' B R a (q + 1) ∧ w.grownBy w' (some R) := by
  obtain ⟨len, cap, p, hr, hp⟩ := h
  refine (one_any v xs B R a len cap p w hr (by omega) hv hne hl0 hl).mono ?_
  rintro e w' ⟨y, he, hy, hr', hg⟩
  exact ⟨y, he, hy, ⟨len, cap, p + 1, hr', by omega⟩, hg⟩

/-- One of a list that is built at the call. -/
theorem one_lit (xs : List Int) (cs : Array Value) (n : Nat) (hcs : cs.toList = xs.map (Value.int .i64)) (hn : n = xs.length) (g B R : Nat) (a : Option Addr) (q : Nat) (w : World) (h : HasReader w B R a q) (hq : q ≤ 1000000) (hl0 : 0 < xs.length) (hl : xs.length ≤ 1000000) (hgw : g = w.heap.size) :
    Calls Try.prog 55 #[.pointer (some ⟨R, 0, none⟩), .slice (some ⟨g, 0, none⟩) n n] (w.alloc (.cells cs 3)) fun e w' => ∃ y, e = .returned (.int .i64 y) ∧ y ∈ xs ∧ HasReader w' B R a (q + 1) ∧ w.grownBy w' (some R) := by
  subst hn hgw
  have hb : Below w.heap.size w (w.alloc (.cells cs 3)) := (Below.refl _ _).alloc (Nat.le_refl _) _
  refine (one_has _ xs B R a q _ (h.later hb) hq (own_lit w w.heap.size xs cs hcs (Nat.le_refl _) (by omega)).ints ?_ hl0 hl).mono ?_
  · have := h.lt.2
    simp [Value.ownBlock]
    omega
  · rintro e w' ⟨y, he, hy, hr', hg⟩
    exact ⟨y, he, hy, hr', (World.grownBy_alloc w _ _).trans hg⟩

set_option maxHeartbeats 800000 in
theorem newReader_any (a : Option Addr) (n cap : Nat) (w : World) (h : IsBytes w a n) (hc : n ≤ cap) :
    Calls Try.prog 52 #[.slice a n cap] w fun e w' => e = .returned (.pointer (some ⟨w.heap.size, 0, none⟩)) ∧ HasReader w' w.heap.size w.heap.size a 0 ∧ Below w.heap.size w w' := by
  have hlow : ∀ b, a.map Addr.block = some b → 0 < n → b < w.heap.size := by
    intro b hb h0
    obtain ⟨b', off, x, rfl, hcell, _⟩ := h 0 h0
    simp at hb
    subst hb
    exact World.block_lt_of_cell? w _ hcell
  by_cases hbig : (2000 : Int) < (n : Int)
  · have hcc : (2000 : Int) ≤ (cap : Int) := by omega
    go_enter Try.func52, Try.ntmps52
    go_wp2
    go_ret
    have hb : Below w.heap.size w (w.alloc (.cells #[.slice a 2000 cap, .int .i64 0] 73)) := (Below.refl _ _).alloc (Nat.le_refl _) _
    exact ⟨rfl, ⟨2000, cap, 0, ⟨heap_alloc_new w _, fun j hj => (h.below hb hlow) j (by omega), fun b hb h0 => hlow b hb (by omega), Nat.le_refl _, Nat.le_refl _⟩, Nat.le_refl _⟩, hb⟩
  · go_enter Try.func52, Try.ntmps52
    go_wp2
    go_ret
    have hb : Below w.heap.size w (w.alloc (.cells #[.slice a n cap, .int .i64 0] 73)) := (Below.refl _ _).alloc (Nat.le_refl _) _
    exact ⟨rfl, ⟨n, cap, 0, ⟨heap_alloc_new w _, h.below hb hlow, hlow, Nat.le_refl _, by omega⟩, Nat.le_refl _⟩, hb⟩

theorem Own.neBlock {w : World} {B R : Nat} {v : Value} {xs : List Int} (h : Own w B v xs) (hR : R < B) : v.ownBlock ≠ some R := fun e => by
  have := (h.lt R e).1
  omega

theorem grown_fresh {w w1 w2 : World} {R : Nat} {row : Option Nat} (t : w.grownBy w1 (some R)) (g : w1.grownBy w2 row) (hr : ∀ k, row = some k → w.heap.size ≤ k) : w.grownBy w2 (some R) :=
  ⟨g.os.trans t.os, g.tape.trans t.tape, g.output.trans t.output, Nat.le_trans t.size g.size, fun k hk hne => (g.block k (Nat.lt_of_lt_of_le hk t.size) (fun e => by have := hr k e.symm; omega)).trans (t.block k hk hne)⟩

theorem below_reader {w w1 w2 : World} (hb : Below w.heap.size w w1) (hg : w1.grownBy w2 (some w.heap.size)) : Below w.heap.size w w2 :=
  hb.trans (below_grown hg hb.size (fun k hk => by cases hk; exact Nat.le_refl _))

end Go.Proofs.Ytfgafbjofkicdaa
