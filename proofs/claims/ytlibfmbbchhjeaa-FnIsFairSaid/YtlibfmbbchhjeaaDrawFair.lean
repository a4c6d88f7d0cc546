/- The drawn arguments of IsFair. -/
import Derived.Test.YtlibfmbbchhjeaaShares
import Derived.Test.YtlibfmbbchhjeaaRests
import Derived.Test.YtlibfmbbchhjeaaDraws
import Derived.Test.YtlibfmbbchhjeaaRest
import Derived.Test.YtlibfmbbchhjeaaESplitEven
namespace Go.Proofs.Ytlibfmbbchhjeaa
open Go.RowKit

/-- What stands while the arguments of IsFair are drawn. -/
structure FairSt (w w' : World) (a : Option Addr) (q : Nat) (v : Value) (xs : List Int) (u : Value) (ys : List Int) : Prop where
  rd : HasReader w' w.heap.size w.heap.size a q
  ov : Own w' (w.heap.size + 1) v xs
  ou : Own w' (w.heap.size + 1) u ys
  ap : Apart v u
  bl : Below w.heap.size w w'

theorem FairSt.pick {w w' w2 : World} {a : Option Addr} {q q' : Nat} {v u : Value} {xs ys : List Int} (h : FairSt w w' a q v xs u ys) (hr : HasReader w2 w.heap.size w.heap.size a q') (hg : w'.grownBy w2 (some w.heap.size)) : FairSt w w2 a q' v xs u ys :=
  ⟨hr, h.ov.kept hg (.inr (h.ov.neBlock (Nat.lt_succ_self _))), h.ou.kept hg (.inr (h.ou.neBlock (Nat.lt_succ_self _))), h.ap, below_reader h.bl hg⟩

theorem FairSt.store {w w' : World} {a : Option Addr} {q g n cap : Nat} {v : Value} {xs ys : List Int} (h : FairSt w w' a q v xs (sl g n cap) ys) (hn : ys.length = n) (j : Nat) (z : Int) : FairSt w (w'.setCell ⟨g, j, none⟩ (.int .i64 z)) a q v xs (sl g n cap) (ys.set j z) := by
  have st := h.ou.set hn j z
  have hg := h.ou.baseLe
  exact ⟨h.rd.kept st.2 (fun k hk => by cases hk; omega), h.ov.kept st.2 h.ap, st.1, h.ap, h.bl.trans (below_grown st.2 h.bl.size (fun k hk => by cases hk; omega))⟩

/-- Numbers that shares may be. -/
def Small (ys : List Int) : Prop := ys.length ≤ 8 ∧ ∀ y ∈ ys, -200000000 ≤ y ∧ y ≤ 200000000

theorem Small.fits {ys : List Int} (h : Small ys) : Fits ys := fun y hy => by have := h.2 y hy; omega
theorem Small.getD {ys : List Int} (h : Small ys) (j : Nat) : -200000000 ≤ ys.getD j 0 ∧ ys.getD j 0 ≤ 200000000 := by
  by_cases hj : j < ys.length
  · simpa [List.getD, hj] using h.2 ys[j] (List.getElem_mem hj)
  · simp [List.getD, Nat.not_lt.1 hj]
theorem mem_set_cases {ys : List Int} {j : Nat} {z y : Int} (h : y ∈ ys.set j z) : y ∈ ys ∨ y = z := List.mem_or_eq_of_mem_set h

theorem rest_small (t : Int) (xs : List Int) : (restL t xs).length ≤ 8 ∧ ∀ y ∈ restL t xs, -100000000 ≤ y ∧ y ≤ 100000000 := by
  refine ⟨restL_length t xs, fun y hy => ?_⟩
  unfold restL at hy
  split at hy
  · rename_i h
    obtain ⟨i, _, rfl⟩ := List.mem_map.1 hy
    have := (qr_facts h i).1
    unfold restAt
    split <;> omega
  · simp at hy
theorem sums_small (t : Int) (xs : List Int) : (sumsL t xs).length ≤ 8 ∧ ∀ y ∈ sumsL t xs, -100000000 ≤ y ∧ y ≤ 100000000 := by
  refine ⟨sumsL_length t xs, fun y hy => ?_⟩
  unfold sumsL at hy
  split at hy
  · rename_i h
    obtain ⟨i, _, rfl⟩ := List.mem_map.1 hy
    obtain ⟨t0, t1, hvp⟩ := cShare_facts h
    obtain ⟨hlen, hall, s0, s1, hsf⟩ := vParts_facts hvp
    have u0 := tot_take_bounds hall hlen.2 i
    have u1 := tot_take_bounds hall hlen.2 (i + 1)
    have r0 := rd_bounds t0 t1 s0 s1 u0.1 u0.2
    have r1 := rd_bounds t0 t1 s0 s1 u1.1 u1.2
    unfold sumsAt
    omega
  · simp at hy

set_option maxHeartbeats 3200000 in
theorem DrawIsFair_any (a : Option Addr) (n cap : Nat) (w : World) (h : IsBytes w a n) (hc : n ≤ cap) :
    Calls Try.prog 32 #[.slice a n cap] w fun e w' => ∃ t v xs u ys, e = .returned (.tuple #[.int .i64 t, v, u]) ∧ (-1 ≤ t ∧ t ≤ 100001) ∧ Own w' w.heap.size v xs ∧ Weights xs ∧ Own w' w.heap.size u ys ∧ Small ys ∧ Below w.heap.size w w' := by
  go_enter Try.func32, Try.ntmps32
  go_wp2_with fail
  refine (newReader_any a n cap _ h hc).mono ?_
  rintro e w1 ⟨rfl, h1, b1⟩
  go_wp2_with fail
  refine (aTotal_any _ _ _ _ _ h1 (by omega)).mono ?_
  rintro e w2 ⟨t, rfl, ht, h2, g2⟩
  have b2 := below_reader b1 g2
  have hR2 := h2.lt.2
  go_wp2_with fail
  refine (someWeights_any _ _ _ _ _ h2 (by omega)).mono ?_
  rintro e w3 ⟨v, xs, rfl, o3, wx, h3, g3⟩
  have b3 := below_reader b2 g3
  have hl9 := wx.1
  have hl : xs.length ≤ 9223372036854775807 := by omega
  have o3' := o3.base (show w.heap.size + 1 ≤ w2.heap.size by omega)
  have hs3 : w.heap.size + 1 ≤ w3.heap.size := by have := h3.lt.2; omega
  clear o3 b2 g3 h2 g2 b1 h1
  go_wp2_with fail
  refine (ShareByRest_spec t v xs _ o3'.ints hl).mono ?_
  rintro e w4 ⟨u, rfl, ou4, b4⟩
  have st4 : FairSt w w4 a _ v xs u (restL t xs) := ⟨h3.later b4, o3'.below b4, ou4.base hs3, o3'.apart_of_base ou4, b3.trans (b4.mono b3.size)⟩
  have sm4 := rest_small t xs
  clear ou4 b4 h3 o3' b3
  go_wp2_with fail
  refine (pick_has 3 _ _ _ _ _ st4.rd (by omega) (by omega)).mono ?_
  rintro e w5 ⟨y1, rfl, ⟨y10, y11, _⟩, h5, g5⟩
  have y12 := y11 (by omega)
  have st5 := st4.pick h5 g5
  clear st4 h5 g5 y11
  by_cases hy1 : y1 = 0
  · subst hy1
    go_wp2_with fail
    refine (ShareBySums_spec t v xs _ st5.ov.ints hl).mono ?_
    rintro e w6 ⟨u6, rfl, ou6, b6⟩
    have st6 : FairSt w w6 a _ v xs u6 (sumsL t xs) := ⟨st5.rd.later b6, st5.ov.below b6, ou6.base (by have := st5.rd.lt.2; omega), st5.ov.apart_of_base ou6, st5.bl.trans (b6.mono st5.bl.size)⟩
    have sm6 := sums_small t xs
    clear ou6 b6 st5 sm4
    have SM := Lib.hid sm6.2
    have sl8 := sm6.1
    obtain ⟨au, cu, rfl, _⟩ := st6.ou.ints
    by_cases hlen : (1 : Int) < ((sumsL t xs).length : Int)
    · have hd : decide ((1 : Int) < ((sumsL t xs).length : Int)) = true := decide_eq_true hlen
      obtain ⟨g, cu', hsh⟩ := st6.ou.shape (by omega)
      simp only [sl, Value.slice.injEq, true_and] at hsh
      obtain ⟨rfl, rfl⟩ := hsh
      go_wp2_with fail
      refine (pick_has 3 _ _ _ _ _ st6.rd (by omega) (by omega)).mono ?_
      rintro e w7 ⟨y2, rfl, ⟨p0, p1, _⟩, h7, g7⟩
      have p2 := p1 (by omega)
      have st7 := st6.pick h7 g7
      clear st6 h7 g7 p1 sm6
      by_cases hy2 : y2 = 0
      · subst hy2
        go_wp2_with fail
        refine (pick_has ((sumsL t xs).length : Int) _ _ _ _ _ st7.rd (by omega) (by omega)).mono ?_
        rintro e w8 ⟨j, rfl, ⟨j0, j1, _⟩, h8, g8⟩
        have j2 := j1 (by omega)
        obtain ⟨jn, rfl⟩ : ∃ jn : Nat, j = jn := ⟨j.toNat, by omega⟩
        have jl : jn < (sumsL t xs).length := by omega
        have st8 := st7.pick h8 g8
        have hcj := st8.ou.cell rfl jn jl
        have hfj := st8.ou.frozen rfl jn
        have hjb := SM.out ((sumsL t xs).getD jn 0) (by simp [List.getD, jl])
        have st9 := st8.store rfl jn ((sumsL t xs).getD jn 0 + 1)
        have l9 : ((sumsL t xs).set jn ((sumsL t xs).getD jn 0 + 1)).length = (sumsL t xs).length := List.length_set
        have S9 := Lib.hid st9
        have L9 := Lib.hid l9
        clear st8 st7 h8 g8 j1 st9 l9
        generalize (sumsL t xs).getD jn 0 = zj at hcj hjb S9 L9
        go_wp2_with fail
        refine (pick_has ((sumsL t xs).length : Int) _ _ _ _ _ S9.out.rd (by omega) (by omega)).mono ?_
        rintro e w10 ⟨k, rfl, ⟨k0, k1, _⟩, h10, g10⟩
        have k2 := k1 (by omega)
        obtain ⟨kn, rfl⟩ : ∃ kn : Nat, k = kn := ⟨k.toNat, by omega⟩
        have kl : kn < (sumsL t xs).length := by omega
        have st10 := S9.out.pick h10 g10
        have hck := st10.ou.cell L9.out kn kl
        have hfk := st10.ou.frozen L9.out kn
        have hmem : ∀ y ∈ (sumsL t xs).set jn (zj + 1), -100000001 ≤ y ∧ y ≤ 100000001 := by
          intro y hy
          rcases mem_set_cases hy with hy | rfl
          · have := SM.out y hy; omega
          · omega
        have hkb := hmem (((sumsL t xs).set jn (zj + 1)).getD kn 0) (by simp [List.getD, kl])
        have st11 := st10.store L9.out kn (((sumsL t xs).set jn (zj + 1)).getD kn 0 - 1)
        have hsm : Small (((sumsL t xs).set jn (zj + 1)).set kn (((sumsL t xs).set jn (zj + 1)).getD kn 0 - 1)) := by
          refine ⟨by simp; omega, fun y hy => ?_⟩
          rcases mem_set_cases hy with hy | rfl
          · have := hmem y hy; omega
          · omega
        have S11 := Lib.hid st11
        have HSM := Lib.hid hsm
        clear hcj hfj st10 h10 g10 k1 st11 hsm hmem
        generalize ((sumsL t xs).set jn (zj + 1)).getD kn 0 = zk at hck hkb S11 HSM
        go_wp2
        go_ret3
        exact ⟨_, _, _, _, _, rfl, ht, S11.out.ov.base (Nat.le_succ _), wx, S11.out.ou.base (Nat.le_succ _), HSM.out, S11.out.bl⟩
      · have f2 : (y2 == 0) = false := by simpa using hy2
        have hsm : Small (sumsL t xs) := ⟨sl8, fun y hy => by have := SM.out y hy; omega⟩
        have HSM := Lib.hid hsm
        clear hsm
        go_wp2
        go_ret3
        exact ⟨_, _, _, _, _, rfl, ht, st7.ov.base (Nat.le_succ _), wx, st7.ou.base (Nat.le_succ _), HSM.out, st7.bl⟩
    · have hd : decide ((1 : Int) < ((sumsL t xs).length : Int)) = false := decide_eq_false hlen
      have hsm : Small (sumsL t xs) := ⟨sl8, fun y hy => by have := SM.out y hy; omega⟩
      have HSM := Lib.hid hsm
      clear hsm sm6
      go_wp2
      go_ret3
      exact ⟨_, _, _, _, _, rfl, ht, st6.ov.base (Nat.le_succ _), wx, st6.ou.base (Nat.le_succ _), HSM.out, st6.bl⟩

  · have f1 : (y1 == 0) = false := by simpa using hy1
    have SM := Lib.hid sm4.2
    have sl8 := sm4.1
    obtain ⟨au, cu, rfl, _⟩ := st5.ou.ints
    by_cases hlen : (1 : Int) < ((restL t xs).length : Int)
    · have hd : decide ((1 : Int) < ((restL t xs).length : Int)) = true := decide_eq_true hlen
      obtain ⟨g, cu', hsh⟩ := st5.ou.shape (by omega)
      simp only [sl, Value.slice.injEq, true_and] at hsh
      obtain ⟨rfl, rfl⟩ := hsh
      go_wp2_with fail
      refine (pick_has 3 _ _ _ _ _ st5.rd (by omega) (by omega)).mono ?_
      rintro e w7 ⟨y2, rfl, ⟨p0, p1, _⟩, h7, g7⟩
      have p2 := p1 (by omega)
      have st7 := st5.pick h7 g7
      clear st5 h7 g7 p1 sm4
      by_cases hy2 : y2 = 0
      · subst hy2
        go_wp2_with fail
        refine (pick_has ((restL t xs).length : Int) _ _ _ _ _ st7.rd (by omega) (by omega)).mono ?_
        rintro e w8 ⟨j, rfl, ⟨j0, j1, _⟩, h8, g8⟩
        have j2 := j1 (by omega)
        obtain ⟨jn, rfl⟩ : ∃ jn : Nat, j = jn := ⟨j.toNat, by omega⟩
        have jl : jn < (restL t xs).length := by omega
        have st8 := st7.pick h8 g8
        have hcj := st8.ou.cell rfl jn jl
        have hfj := st8.ou.frozen rfl jn
        have hjb := SM.out ((restL t xs).getD jn 0) (by simp [List.getD, jl])
        have st9 := st8.store rfl jn ((restL t xs).getD jn 0 + 1)
        have l9 : ((restL t xs).set jn ((restL t xs).getD jn 0 + 1)).length = (restL t xs).length := List.length_set
        have S9 := Lib.hid st9
        have L9 := Lib.hid l9
        clear st8 st7 h8 g8 j1 st9 l9
        generalize (restL t xs).getD jn 0 = zj at hcj hjb S9 L9
        go_wp2_with fail
        refine (pick_has ((restL t xs).length : Int) _ _ _ _ _ S9.out.rd (by omega) (by omega)).mono ?_
        rintro e w10 ⟨k, rfl, ⟨k0, k1, _⟩, h10, g10⟩
        have k2 := k1 (by omega)
        obtain ⟨kn, rfl⟩ : ∃ kn : Nat, k = kn := ⟨k.toNat, by omega⟩
        have kl : kn < (restL t xs).length := by omega
        have st10 := S9.out.pick h10 g10
        have hck := st10.ou.cell L9.out kn kl
        have hfk := st10.ou.frozen L9.out kn
        have hmem : ∀ y ∈ (restL t xs).set jn (zj + 1), -100000001 ≤ y ∧ y ≤ 100000001 := by
          intro y hy
          rcases mem_set_cases hy with hy | rfl
          · have := SM.out y hy; omega
          · omega
        have hkb := hmem (((restL t xs).set jn (zj + 1)).getD kn 0) (by simp [List.getD, kl])
        have st11 := st10.store L9.out kn (((restL t xs).set jn (zj + 1)).getD kn 0 - 1)
        have hsm : Small (((restL t xs).set jn (zj + 1)).set kn (((restL t xs).set jn (zj + 1)).getD kn 0 - 1)) := by
          refine ⟨by simp; omega, fun y hy => ?_⟩
          rcases mem_set_cases hy with hy | rfl
          · have := hmem y hy; omega
          · omega
        have S11 := Lib.hid st11
        have HSM := Lib.hid hsm
        clear hcj hfj st10 h10 g10 k1 st11 hsm hmem
        generalize ((restL t xs).set jn (zj + 1)).getD kn 0 = zk at hck hkb S11 HSM
        go_wp2
        go_ret3
        exact ⟨_, _, _, _, _, rfl, ht, S11.out.ov.base (Nat.le_succ _), wx, S11.out.ou.base (Nat.le_succ _), HSM.out, S11.out.bl⟩
      · have f2 : (y2 == 0) = false := by simpa using hy2
        have hsm : Small (restL t xs) := ⟨sl8, fun y hy => by have := SM.out y hy; omega⟩
        have HSM := Lib.hid hsm
        clear hsm
        go_wp2
        go_ret3
        exact ⟨_, _, _, _, _, rfl, ht, st7.ov.base (Nat.le_succ _), wx, st7.ou.base (Nat.le_succ _), HSM.out, st7.bl⟩
    · have hd : decide ((1 : Int) < ((restL t xs).length : Int)) = false := decide_eq_false hlen
      have hsm : Small (restL t xs) := ⟨sl8, fun y hy => by have := SM.out y hy; omega⟩
      have HSM := Lib.hid hsm
      clear hsm sm4
      go_wp2
      go_ret3
      exact ⟨_, _, _, _, _, rfl, ht, st5.ov.base (Nat.le_succ _), wx, st5.ou.base (Nat.le_succ _), HSM.out, st5.bl⟩

end Go.Proofs.Ytlibfmbbchhjeaa
