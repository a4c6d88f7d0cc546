/- Drawn lines of a desk. -/
import Derived.Test.YtpenbkfchgeafaaGreatDoorQDdn
import Derived.Test.YtpenbkfchgeafaaGreatDoorQDo
import Derived.Deep.CutRange
namespace Go.Proofs.YtpenbkfchgeafaaGreatDoor
open Go.RowKit Go.Lib

/-- What lies between two steps of the drawing: the lines of the call's own, and the reader. -/
structure DeskSt (w : World) (k : Nat) (a : Option Addr) (q : Nat) (v : Value) (ps : List ByteArray) (W : World) : Prop where
  own : OwnStr W (k + 1) v ps
  rd : HasReader W k k a q
  bel : Below k w W
theorem DeskSt.call {w W W' : World} {k q q' : Nat} {a : Option Addr} {v : Value} {ps : List ByteArray} (h : DeskSt w k a q v ps W) (hr : HasReader W' k k a q') (hg : W.grownBy W' (some k)) (hk : k ≤ W.heap.size) : DeskSt w k a q' v ps W' :=
  ⟨OwnStr.kept h.own hg (by
    cases hv : v.ownBlock with
    | none => exact .inl rfl
    | some g =>
      have := (h.own.lt g hv).1
      exact .inr fun e => by
        have : g = k := by simpa using e
        omega), hr, h.bel.trans (below_grown hg hk (fun j hj => by cases hj; exact Nat.le_refl _))⟩
theorem DeskSt.more {w W : World} {k q q' : Nat} {a : Option Addr} {v : Value} {ps : List ByteArray} (h : DeskSt w k a q v ps W) (hq : q ≤ q') : DeskSt w k a q' v ps W := ⟨h.own, h.rd.more hq, h.bel⟩
theorem DeskSt.size {w W : World} {k q : Nat} {a : Option Addr} {v : Value} {ps : List ByteArray} (h : DeskSt w k a q v ps W) : k + 1 ≤ W.heap.size := by
  have := h.rd.lt.2
  omega
def Lines (ps : List ByteArray) : Prop := ∀ s ∈ ps, s.size ≤ 1002
theorem lines_push {ps : List ByteArray} {s : ByteArray} (h : Lines ps) (hs : s.size ≤ 1002) : Lines (ps ++ [s]) := fun x hx => by
  rcases List.mem_append.1 hx with h1 | h1
  · exact h x h1
  · obtain rfl := List.mem_singleton.1 h1
    exact hs
def words2 : List ByteArray := [⟨#[114, 101, 115, 116]⟩, ⟨#[115, 117, 109, 115]⟩]
def coins2 : List ByteArray := [⟨#[99, 111, 105, 110, 115]⟩, ⟨#[119, 97, 121, 115]⟩]
def odd12 : List ByteArray := [⟨#[]⟩, ⟨#[104, 101, 108, 112]⟩, ⟨#[114, 101, 115, 116]⟩, ⟨#[114, 101, 115, 116, 32, 53, 32, 48]⟩, ⟨#[99, 111, 105, 110, 115, 32, 53, 32, 50]⟩, ⟨#[119, 97, 121, 115, 32, 120, 32, 49]⟩, ⟨#[98, 105, 108, 108, 32]⟩, ⟨#[98, 105, 108, 108, 32, 53, 49]⟩, ⟨#[119, 97, 108, 107, 32, 49, 32, 50]⟩, ⟨#[115, 117, 109, 115, 32, 49, 48, 48, 48, 48, 49, 32, 49]⟩, ⟨#[99, 111, 105, 110, 115, 32, 49, 50, 49, 32, 49]⟩, ⟨#[98, 105, 108, 108, 32, 49, 44, 32, 50]⟩]
theorem words2_len {t : ByteArray} (h : t ∈ words2) : t.size ≤ 5 := by
  simp only [words2, List.mem_cons, List.not_mem_nil, or_false] at h
  rcases h with rfl | rfl <;> decide
theorem coins2_len {t : ByteArray} (h : t ∈ coins2) : t.size ≤ 5 := by
  simp only [coins2, List.mem_cons, List.not_mem_nil, or_false] at h
  rcases h with rfl | rfl <;> decide
theorem odd12_len {t : ByteArray} (h : t ∈ odd12) : t.size ≤ 13 := by
  simp only [odd12, List.mem_cons, List.not_mem_nil, or_false] at h
  rcases h with rfl | rfl | rfl | rfl | rfl | rfl | rfl | rfl | rfl | rfl | rfl | rfl <;> decide

set_option maxRecDepth 100000 in
set_option maxHeartbeats 8000000 in
theorem DrawRunDesk_any (a : Option Addr) (len cap : Nat) (w : World) (h : IsBytes w a len) (hc : len ≤ cap) :
    Calls Tryz.prog 5 #[.slice a len cap] w fun e w' => ∃ v ps, e = .returned v ∧ OwnStr w' w.heap.size v ps ∧ ps.length ≤ 5 ∧ Lines ps ∧ Below w.heap.size w w' := by
  have HN := Lib.hid (newReader_any a len cap w h hc)
  clear h
  obtain ⟨k, hk⟩ : ∃ k, w.heap.size = k := ⟨_, rfl⟩
  rw [hk] at HN ⊢
  go_enter Tryz.func5, Tryz.ntmps5
  go_wp2_with fail
  refine HN.out.mono ?_
  rintro e w1 ⟨rfl, h1, b1⟩
  have hk1 := h1.lt.2
  have st0 : DeskSt w k a 0 (sl w1.heap.size 0 0) [] (w1.alloc (.cells #[] 9)) :=
    ⟨(own_emptyS w1 (k + 1) (by omega)), h1.later ((Below.refl _ _).alloc (Nat.le_refl _) _), b1.alloc (by omega) _⟩
  clear h1 b1 HN
  go_wp2_with fail
  refine (one_lit [4, 5, 2, 0] _ 4 rfl rfl _ k k a _ _ st0.rd (by omega) (by simp) (by simp) (by simp)).mono ?_
  rintro e w2 ⟨n, rfl, hn, h2, g2⟩
  have st2 := st0.call h2 g2 (by have := st0.size; omega)
  have hn5 : 0 ≤ n ∧ n ≤ 5 := by
    simp only [List.mem_cons, List.not_mem_nil, or_false] at hn
    omega
  clear hn h2 g2 st0
  go_wp2
  go_loopg [4, 5] 5 (fun g v n wr => ∃ (ps : List ByteArray) (N : Int), ps.length + g ≤ 5 ∧ N ≤ g ∧ n = .int .i64 N ∧ Lines ps ∧ DeskSt w k a (1 + 200 * (5 - g)) v ps wr ∧ g ≤ 5)
  case atStart => exact ⟨[], n, by simp, by omega, rfl, (fun s hs => by cases hs), st2, by omega⟩
  case round =>
    obtain ⟨ps, N, hlen, hN, rfl, hls, st, hg5⟩ := hrel
    clear st2
    by_cases hc1 : 0 < N
    · have HLS := Lib.hid hls
      have HLEN := Lib.hid hlen
      have HNG := Lib.hid hN
      clear hls hlen hN
      go_upto_region 6 with (fail)
      go_cut [6] from 13 to 78 (fun p wx => ∃ s : ByteArray, p = .string s ∧ s.size ≤ 300 ∧ DeskSt w k a (1 + 200 * (5 - gk) + 110) u4 ps wx)
      case first =>
        go_wp2_with fail
        refine (of_lit words2 #[.string ⟨#[114, 101, 115, 116]⟩, .string ⟨#[115, 117, 109, 115]⟩] 2 rfl rfl _ k k a _ _ st.rd (by omega) (by decide) (by decide) (by simp)).mono ?_
        rintro e w3 ⟨t3, rfl, ht3, h3, g3⟩
        have st3 := st.call h3 g3 (by have := st.size; omega)
        have z3 := words2_len ht3
        clear st h3 g3 ht3
        have s3 := st3.size
        go_wp2_with fail
        refine (pick_has 256 k k a _ _ st3.rd (by omega) (by omega)).mono ?_
        rintro e w4 ⟨y4, rfl, ⟨p4, r4, _⟩, h4, g4⟩
        have q4 := r4 (by omega)
        have st4 := st3.call h4 g4 (by omega)
        clear st3 h4 g4 r4 s3
        have s4 := st4.size
        go_wp2_with fail
        refine (number_spec y4 w4 (by omega) (by omega)).mono ?_
        rintro e w' ⟨rfl, rfl⟩
        have n4 := itoa_len (n := y4) (by omega) (by omega)
        have m1 : ¬ 9223372036854775807 < t3.size + 1 + (itoa y4).length := by omega
        have m2 : ¬ 9223372036854775807 < t3.size + 1 + (itoa y4).length + 1 := by omega
        have x1 : (t3 ++ ⟨#[32]⟩ ++ ⟨(itoa y4).toArray⟩ ++ ⟨#[32]⟩ : ByteArray).size ≤ 28 := by
          rw [ByteArray.size_append, ByteArray.size_append, ByteArray.size_append]
          have e1 : (⟨(itoa y4).toArray⟩ : ByteArray).size = (itoa y4).length := by simp [ByteArray.size]
          have e2 : (⟨#[32]⟩ : ByteArray).size = 1 := rfl
          omega
        go_wp2_with fail
        generalize (t3 ++ ⟨#[32]⟩ ++ ⟨(itoa y4).toArray⟩ ++ ⟨#[32]⟩ : ByteArray) = X1 at *
        refine (someWeights_any k k a _ _ st4.rd (by omega)).mono ?_
        rintro e w5 ⟨v5, xs5, rfl, o5, hw5, h5, g5⟩
        have st5 := st4.call h5 g5 (by omega)
        clear st4 h5 g5 m1 m2
        have fx : Fine xs5 ∧ xs5.length ≤ 9 := ⟨fun x hx => by have := hw5.2 x hx; omega, hw5.1⟩
        have lx := listT_len fx.1
        have ix := o5.ints
        have FX := Lib.hid fx
        clear s4 o5 fx
        go_wp2_with fail
        refine (listText_spec v5 xs5 w5 ix (by have := FX.out.2; omega) FX.out.1).mono ?_
        rintro e w' ⟨rfl, rfl⟩
        have m3 : ¬ 9223372036854775807 < X1.size + (listT xs5).length := by have := FX.out.2; omega
        have x2 : (X1 ++ ⟨(listT xs5).toArray⟩ : ByteArray).size ≤ 300 := by
          rw [ByteArray.size_append]
          have e1 : (⟨(listT xs5).toArray⟩ : ByteArray).size = (listT xs5).length := by simp [ByteArray.size]
          have := FX.out.2
          omega
        go_wp2_with fail
        go_meet
        exact ⟨_, rfl, x2, st5.more (by omega)⟩
      case rest =>
        obtain ⟨x, rfl, hx, st⟩ := hcut
        apply_assumption
        apply wp_seq_k
        intro _ _
        go_cut [6] from 13 to 78 (fun p wx => ∃ s : ByteArray, p = .string s ∧ s.size ≤ 300 ∧ DeskSt w k a (1 + 200 * (5 - gk) + 140) u4 ps wx)
        case first =>
          go_wp2_with fail
          refine (pick_has 4 k k a _ _ st.rd (by omega) (by omega)).mono ?_
          rintro e w6 ⟨y6, rfl, ⟨p6, r6, _⟩, h6, g6⟩
          have q6 := r6 (by omega)
          have st6 := st.call h6 g6 (by have := st.size; omega)
          clear st h6 g6 r6
          by_cases e0 : y6 = 0
          · subst e0
            go_wp2_with fail
            refine (of_lit coins2 #[.string ⟨#[99, 111, 105, 110, 115]⟩, .string ⟨#[119, 97, 121, 115]⟩] 2 rfl rfl _ k k a _ _ st6.rd (by omega) (by decide) (by decide) (by simp)).mono ?_
            rintro e w7 ⟨t7, rfl, ht7, h7, g7⟩
            have st7 := st6.call h7 g7 (by have := st6.size; omega)
            have z7 := coins2_len ht7
            clear st6 h7 g7 ht7
            have s7 := st7.size
            go_wp2_with fail
            refine (pick_has 121 k k a _ _ st7.rd (by omega) (by omega)).mono ?_
            rintro e w8 ⟨y8, rfl, ⟨p8, r8, _⟩, h8, g8⟩
            have q8 := r8 (by omega)
            have st8 := st7.call h8 g8 (by omega)
            clear st7 h8 g8 r8 s7
            have s8 := st8.size
            go_wp2_with fail
            refine (number_spec y8 w8 (by omega) (by omega)).mono ?_
            rintro e w' ⟨rfl, rfl⟩
            have n8 := itoa_len (n := y8) (by omega) (by omega)
            have m1 : ¬ 9223372036854775807 < t7.size + 1 + (itoa y8).length := by omega
            have m2 : ¬ 9223372036854775807 < t7.size + 1 + (itoa y8).length + 1 := by omega
            have x1 : (t7 ++ ⟨#[32]⟩ ++ ⟨(itoa y8).toArray⟩ ++ ⟨#[32]⟩ : ByteArray).size ≤ 28 := by
              rw [ByteArray.size_append, ByteArray.size_append, ByteArray.size_append]
              have e1 : (⟨(itoa y8).toArray⟩ : ByteArray).size = (itoa y8).length := by simp [ByteArray.size]
              have e2 : (⟨#[32]⟩ : ByteArray).size = 1 := rfl
              omega
            go_wp2_with fail
            generalize (t7 ++ ⟨#[32]⟩ ++ ⟨(itoa y8).toArray⟩ ++ ⟨#[32]⟩ : ByteArray) = X1 at *
            refine (someCoins_in k k a _ _ st8.rd (by omega)).mono ?_
            rintro e w9 ⟨v9, xs9, rfl, o9, l9, hw9, h9, g9⟩
            have st9 := st8.call h9 g9 (by omega)
            clear st8 h9 g9 m1 m2
            have fx : Fine xs9 ∧ xs9.length ≤ 9 := ⟨fun x hx => by have := hw9 x hx; omega, by omega⟩
            have lx := listT_len fx.1
            have ix := o9.ints
            have FX := Lib.hid fx
            clear s8 o9 fx
            go_wp2_with fail
            refine (listText_spec v9 xs9 w9 ix (by have := FX.out.2; omega) FX.out.1).mono ?_
            rintro e w' ⟨rfl, rfl⟩
            have m3 : ¬ 9223372036854775807 < X1.size + (listT xs9).length := by have := FX.out.2; omega
            have x2 : (X1 ++ ⟨(listT xs9).toArray⟩ : ByteArray).size ≤ 300 := by
              rw [ByteArray.size_append]
              have e1 : (⟨(listT xs9).toArray⟩ : ByteArray).size = (listT xs9).length := by simp [ByteArray.size]
              have := FX.out.2
              omega
            go_wp2_with fail
            go_meet
            exact ⟨_, rfl, x2, st9.more (by omega)⟩
          · have f0 : (y6 == 0) = false := by simpa using e0
            by_cases e1 : y6 = 1
            · subst e1
              clear e0
              have s6' := st6.size
              go_wp2_with fail
              refine (pick_has 51 k k a _ _ st6.rd (by omega) (by omega)).mono ?_
              rintro e w7 ⟨y7, rfl, ⟨p7, r7, _⟩, h7, g7⟩
              have q7 := r7 (by omega)
              have st7 := st6.call h7 g7 (by omega)
              clear st6 h7 g7 r7 s6'
              go_wp2_with fail
              refine (number_spec y7 w7 (by omega) (by omega)).mono ?_
              rintro e w' ⟨rfl, rfl⟩
              have n7 := itoa_len (n := y7) (by omega) (by omega)
              have m00 : ¬ 9223372036854775807 < 5 + (itoa y7).length := by omega
              have k00 : ¬ 9223372036854775807 < 5 + (itoa y7).length + 1 := by omega
              have s7' := st7.size
              go_wp2_with fail
              refine (pick_has 51 k k a _ _ st7.rd (by omega) (by omega)).mono ?_
              rintro e w8 ⟨y8, rfl, ⟨p8, r8, _⟩, h8, g8⟩
              have q8 := r8 (by omega)
              have st8 := st7.call h8 g8 (by omega)
              clear st7 h8 g8 r8 s7'
              go_wp2_with fail
              refine (number_spec y8 w8 (by omega) (by omega)).mono ?_
              rintro e w' ⟨rfl, rfl⟩
              have n8 := itoa_len (n := y8) (by omega) (by omega)
              have m10 : ¬ 9223372036854775807 < 5 + (itoa y7).length := by omega
              have k10 : ¬ 9223372036854775807 < 5 + (itoa y7).length + 1 := by omega
              have m11 : ¬ 9223372036854775807 < 5 + (itoa y7).length + 1 + (itoa y8).length := by omega
              have k11 : ¬ 9223372036854775807 < 5 + (itoa y7).length + 1 + (itoa y8).length + 1 := by omega
              have s8' := st8.size
              go_wp2_with fail
              refine (pick_has 51 k k a _ _ st8.rd (by omega) (by omega)).mono ?_
              rintro e w9 ⟨y9, rfl, ⟨p9, r9, _⟩, h9, g9⟩
              have q9 := r9 (by omega)
              have st9 := st8.call h9 g9 (by omega)
              clear st8 h9 g9 r9 s8'
              go_wp2_with fail
              refine (number_spec y9 w9 (by omega) (by omega)).mono ?_
              rintro e w' ⟨rfl, rfl⟩
              have n9 := itoa_len (n := y9) (by omega) (by omega)
              have m20 : ¬ 9223372036854775807 < 5 + (itoa y7).length := by omega
              have k20 : ¬ 9223372036854775807 < 5 + (itoa y7).length + 1 := by omega
              have m21 : ¬ 9223372036854775807 < 5 + (itoa y7).length + 1 + (itoa y8).length := by omega
              have k21 : ¬ 9223372036854775807 < 5 + (itoa y7).length + 1 + (itoa y8).length + 1 := by omega
              have m22 : ¬ 9223372036854775807 < 5 + (itoa y7).length + 1 + (itoa y8).length + 1 + (itoa y9).length := by omega
              have x2 : (⟨#[98, 105, 108, 108, 32]⟩ ++ ⟨(itoa y7).toArray⟩ ++ ⟨#[44]⟩ ++ ⟨(itoa y8).toArray⟩ ++ ⟨#[44]⟩ ++ ⟨(itoa y9).toArray⟩ : ByteArray).size ≤ 300 := by
                rw [ByteArray.size_append, ByteArray.size_append, ByteArray.size_append, ByteArray.size_append, ByteArray.size_append]
                have e1 : (⟨(itoa y7).toArray⟩ : ByteArray).size = (itoa y7).length := by simp [ByteArray.size]
                have e2 : (⟨(itoa y8).toArray⟩ : ByteArray).size = (itoa y8).length := by simp [ByteArray.size]
                have e3 : (⟨(itoa y9).toArray⟩ : ByteArray).size = (itoa y9).length := by simp [ByteArray.size]
                have e4 : (⟨#[44]⟩ : ByteArray).size = 1 := rfl
                have e5 : (⟨#[98, 105, 108, 108, 32]⟩ : ByteArray).size = 5 := rfl
                omega
              have X2 := Lib.hid x2
              clear x2
              go_wp2_with fail
              go_meet
              exact ⟨_, rfl, X2.out, st9.more (by omega)⟩
            · have f1 : (y6 == 1) = false := by simpa using e1
              clear e0 e1
              go_wp2_with fail
              go_meet
              exact ⟨_, rfl, hx, st6.more (by omega)⟩
        case rest =>
          clear hx st
          obtain ⟨x, rfl, hx, st⟩ := hcut
          apply_assumption
          apply wp_seq_k
          intro _ _
          go_cut [6] from 13 to 78 (fun p wx => ∃ s : ByteArray, p = .string s ∧ s.size ≤ 1002 ∧ DeskSt w k a (1 + 200 * (5 - gk) + 150) u4 ps wx)
          case first =>
            go_wp2_with fail
            refine (pick_has 8 k k a _ _ st.rd (by omega) (by omega)).mono ?_
            rintro e w6 ⟨y6, rfl, ⟨p6, r6, _⟩, h6, g6⟩
            have q6 := r6 (by omega)
            have st6 := st.call h6 g6 (by have := st.size; omega)
            clear st h6 g6 r6
            by_cases e0 : y6 = 0
            · subst e0
              go_wp2_with fail
              refine (of_lit odd12 #[.string ⟨#[]⟩, .string ⟨#[104, 101, 108, 112]⟩, .string ⟨#[114, 101, 115, 116]⟩, .string ⟨#[114, 101, 115, 116, 32, 53, 32, 48]⟩, .string ⟨#[99, 111, 105, 110, 115, 32, 53, 32, 50]⟩, .string ⟨#[119, 97, 121, 115, 32, 120, 32, 49]⟩, .string ⟨#[98, 105, 108, 108, 32]⟩, .string ⟨#[98, 105, 108, 108, 32, 53, 49]⟩, .string ⟨#[119, 97, 108, 107, 32, 49, 32, 50]⟩, .string ⟨#[115, 117, 109, 115, 32, 49, 48, 48, 48, 48, 49, 32, 49]⟩, .string ⟨#[99, 111, 105, 110, 115, 32, 49, 50, 49, 32, 49]⟩, .string ⟨#[98, 105, 108, 108, 32, 49, 44, 32, 50]⟩] 12 rfl rfl _ k k a _ _ st6.rd (by omega) (by decide) (by decide) (by simp)).mono ?_
              rintro e w7 ⟨t7, rfl, ht7, h7, g7⟩
              have st7 := st6.call h7 g7 (by have := st6.size; omega)
              have z7 := odd12_len ht7
              clear st6 h7 g7 ht7
              go_wp2_with fail
              go_meet
              exact ⟨_, rfl, by omega, st7.more (by omega)⟩
            · have f0 : (y6 == 0) = false := by simpa using e0
              by_cases e1 : y6 = 1
              · subst e1
                clear e0
                go_wp2_with fail
                refine (mutate_any x (by omega) k k a _ _ st6.rd (by omega)).mono ?_
                rintro e w7 ⟨t7, rfl, z7, h7, g7⟩
                have st7 := st6.call h7 g7 (by have := st6.size; omega)
                clear st6 h7 g7
                go_wp2_with fail
                go_meet
                exact ⟨_, rfl, z7, st7.more (by omega)⟩
              · have f1 : (y6 == 1) = false := by simpa using e1
                clear e0 e1
                go_wp2_with fail
                go_meet
                exact ⟨_, rfl, by omega, st6.more (by omega)⟩
          case rest =>
            clear hx st
            obtain ⟨x, rfl, hx, st⟩ := hcut
            have hle : ps.length ≤ 5 := by have := HLEN.out; omega
            have hs := st.size
            go_wp2_with (at_builtin; refine wpList_pushS st.own (by omega) (by omega) (h := ?_))
            intro v7 w7 o7 g7 m7
            have st7 : DeskSt w k a (1 + 200 * (5 - gk) + 150) v7 (ps ++ [x]) w7 :=
              ⟨o7, st.rd.kept g7 (fun j hj => by have := (st.own.lt j hj).1; omega), st.bel.trans (below_grown g7 (by omega) (fun j hj => by have := (st.own.lt j hj).1; omega))⟩
            clear st o7 g7 m7
            go_wp2
            cases gk with
            | zero =>
              have := HNG.out
              omega
            | succ g =>
              go_roundg g
              case measure => omega
              case rel => exact ⟨_, N - 1, by have := HLEN.out; rw [List.length_append, List.length_singleton]; omega, by have := HNG.out; omega, (by have := HNG.out; rw [show wrap64 (N - 1) = N - 1 by unfold wrap64; omega]), lines_push HLS.out hx, st7.more (by omega), by omega⟩
    · go_wp2
      go_ret
      exact ⟨_, rfl, _, OwnStr.base st.own (by omega), by omega, hls, st.bel⟩
end Go.Proofs.YtpenbkfchgeafaaGreatDoor
