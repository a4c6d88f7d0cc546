/- A text spoilt. -/
import Derived.Test.YtpenbkfchgeafaaGreatDoorQDdm
import Derived.Test.YtpenbkfchgeafaaGreatDoorQDo
namespace Go.Proofs.YtpenbkfchgeafaaGreatDoor
open Go.RowKit

def oneT (c : UInt8) : ByteArray := ⟨#[c]⟩
def spoil7 : List ByteArray := [⟨#[48]⟩, ⟨#[49]⟩, ⟨#[53]⟩, ⟨#[44]⟩, ⟨#[45]⟩, ⟨#[97]⟩, ⟨#[32]⟩]
def spoil4 : List ByteArray := [⟨#[48]⟩, ⟨#[44]⟩, ⟨#[32]⟩, ⟨#[44, 49]⟩]
theorem spoil7_len {t : ByteArray} (h : t ∈ spoil7) : t.size = 1 := by
  simp only [spoil7, List.mem_cons, List.not_mem_nil, or_false] at h
  rcases h with rfl | rfl | rfl | rfl | rfl | rfl | rfl <;> rfl
theorem spoil4_len {t : ByteArray} (h : t ∈ spoil4) : t.size ≤ 2 := by
  simp only [spoil4, List.mem_cons, List.not_mem_nil, or_false] at h
  rcases h with rfl | rfl | rfl | rfl <;> decide

set_option maxRecDepth 100000 in
set_option maxHeartbeats 3200000 in
theorem mutate_any (s : ByteArray) (hs : s.size ≤ 1000) (B R : Nat) (a : Option Addr) (q : Nat) (w : World) (h : HasReader w B R a q) (hq : q ≤ 900000) :
    Calls Tryz.prog 20 #[.pointer (some ⟨R, 0, none⟩), .string s] w fun e w' => ∃ t, e = .returned (.string t) ∧ t.size ≤ 1002 ∧ HasReader w' B R a (q + 3) ∧ w.grownBy w' (some R) := by
  have HP := Lib.hid (pick_has ((s.size : Int) + 1) B R a q w h (by omega) (by omega))
  clear h
  go_enter Tryz.func20, Tryz.ntmps20
  go_wp2_with fail
  refine HP.out.mono ?_
  rintro e w1 ⟨z, rfl, ⟨z0, z1, _⟩, h1, g1⟩
  have z2 := z1 (by omega)
  obtain ⟨k, rfl⟩ : ∃ k : Nat, z = k := ⟨z.toNat, by omega⟩
  have hk : k ≤ s.size := by omega
  clear z0 z1 z2 HP
  go_wp2_with fail
  refine (pick_has 5 B R a _ _ h1 (by omega) (by omega)).mono ?_
  rintro e w2 ⟨y, rfl, ⟨y0, y1, _⟩, h2, g2⟩
  have y2 := y1 (by omega)
  have G2 := Lib.hid (g1.trans g2)
  have H2 := Lib.hid h2
  clear h1 g1 g2 h2 y1
  have hcase : (y = 0 ∨ y = 1) ∨ y = 2 ∨ y = 3 ∨ y = 4 := by omega
  rcases hcase with hy | rfl | rfl | rfl
  · by_cases hlt : k < s.size
    · have i1 : (k : Int) < (s.size : Int) := by omega
      have HO : Hid (Calls Tryz.prog 14 #[.pointer (some ⟨R, 0, none⟩), .slice (some ⟨w2.heap.size, 0, none⟩) 7 7] ((w2.alloc (.cells #[.string ⟨#[48]⟩, .string ⟨#[49]⟩, .string ⟨#[53]⟩, .string ⟨#[44]⟩, .string ⟨#[45]⟩, .string ⟨#[97]⟩, .string ⟨#[32]⟩] 9)).drew) fun e w' => ∃ y, e = .returned (.string y) ∧ y ∈ spoil7 ∧ HasReader w' B R a (q + 3) ∧ w2.grownBy w' (some R)) := by
        have := of_lit spoil7 #[.string ⟨#[48]⟩, .string ⟨#[49]⟩, .string ⟨#[53]⟩, .string ⟨#[44]⟩, .string ⟨#[45]⟩, .string ⟨#[97]⟩, .string ⟨#[32]⟩] 7 rfl rfl w2.heap.size B R a (q + 2) w2.drew (H2.out.later ((Below.refl _ _).drew)) (by omega) (by decide) (by decide) rfl
        refine Calls.mono (show Calls _ _ _ ((w2.alloc (.cells #[.string ⟨#[48]⟩, .string ⟨#[49]⟩, .string ⟨#[53]⟩, .string ⟨#[44]⟩, .string ⟨#[45]⟩, .string ⟨#[97]⟩, .string ⟨#[32]⟩] 9)).drew) _ from this) ?_
        rintro e w' ⟨y, e1, e2, e3, e4⟩
        exact ⟨y, e1, e2, e3, ⟨e4.os, e4.tape, e4.output, e4.size, e4.block⟩⟩
      have i2 : (k : Int) + 1 ≤ (s.size : Int) := by omega
      have i3 : 0 ≤ (k : Int) + 1 := by omega
      have i4 : IntKind.i64.wrap ((k : Int) + 1) = (k : Int) + 1 := IntWalk.i64_in _ ⟨by omega, by omega⟩
      have i5 : ¬ (s.size : Int) < (k : Int) + 1 := by omega
      have i6 : ((k : Int) + 1).toNat = k + 1 := by omega
      have i7 : k + 1 ≤ s.size := by omega
      have hT : ∀ t : ByteArray, t ∈ spoil7 → (¬ 9223372036854775807 < min k s.size + t.size) ∧ (¬ 9223372036854775807 < k + t.size) ∧ (¬ 9223372036854775807 < min k s.size + t.size + (s.size - (k + 1))) ∧ (¬ 9223372036854775807 < k + t.size + (s.size - (k + 1))) ∧ (s.extract 0 k ++ t ++ s.extract (k + 1) s.size).size ≤ 1002 := fun t ht => by
        have h7 := spoil7_len ht
        refine ⟨by omega, by omega, by omega, by omega, ?_⟩
        simp only [ByteArray.size_append, ByteArray.size_extract]
        omega
      have HT := Lib.hid hT
      clear hT
      rcases hy with rfl | rfl
      · clear y0 y2
        go_wp2_with fail
        go_region_with (go_at_call 14; refine HO.out.mono ?_; rintro e w3 ⟨t, rfl, ht, h3, g3⟩; obtain ⟨q1, q2, q3, q4, q5⟩ := HT.out t ht; have H3 := Lib.hid h3; have G3 := Lib.hid g3; have H5 := Lib.hid q5; clear h3 g3 q5 ht)
        all_goals
          go_wp2
          go_ret
          exact ⟨_, rfl, H5.out, H3.out, G2.out.trans G3.out⟩
      · clear y0 y2
        go_wp2_with fail
        go_region_with (go_at_call 14; refine HO.out.mono ?_; rintro e w3 ⟨t, rfl, ht, h3, g3⟩; obtain ⟨q1, q2, q3, q4, q5⟩ := HT.out t ht; have H3 := Lib.hid h3; have G3 := Lib.hid g3; have H5 := Lib.hid q5; clear h3 g3 q5 ht)
        all_goals
          go_wp2
          go_ret
          exact ⟨_, rfl, H5.out, H3.out, G2.out.trans G3.out⟩
    · have i1 : ¬ (k : Int) < (s.size : Int) := by omega
      rcases hy with rfl | rfl
      · go_wp2
        go_ret
        exact ⟨_, rfl, by omega, H2.out.more (by omega), G2.out⟩
      · go_wp2
        go_ret
        exact ⟨_, rfl, by omega, H2.out.more (by omega), G2.out⟩
  · have i1 : (k : Int) ≤ (s.size : Int) := by omega
    have i2 : 0 ≤ (k : Int) := by omega
    go_wp2
    go_ret
    exact ⟨_, rfl, by simp; omega, H2.out.more (by omega), G2.out⟩
  · have HO := Lib.hid (of_lit spoil4 #[.string ⟨#[48]⟩, .string ⟨#[44]⟩, .string ⟨#[32]⟩, .string ⟨#[44, 49]⟩] 4 rfl rfl w2.heap.size B R a (q + 2) w2 H2.out (by omega) (by decide) (by decide) rfl)
    go_wp2_with fail
    refine HO.out.mono ?_
    rintro e w3 ⟨t, rfl, ht, h3, g3⟩
    have h4 := spoil4_len ht
    have q1 : ¬ 9223372036854775807 < s.size + t.size := by omega
    have H3 := Lib.hid h3
    have G3 := Lib.hid g3
    clear h3 g3 ht
    go_wp2
    go_ret
    exact ⟨_, rfl, by rw [ByteArray.size_append]; omega, H3.out, G2.out.trans G3.out⟩
  · go_wp2
    go_ret
    exact ⟨_, rfl, by omega, H2.out.more (by omega), G2.out⟩
end Go.Proofs.YtpenbkfchgeafaaGreatDoor
