/- A desk's answers: what the model and the program say of a line is one. -/
import Derived.Test.YtpenbkfchgeafaaGreatDoorQDm
import Derived.Test.YtpenbkfchgeafaaGreatDoorQPush
import Derived.Test.YtpenbkfchgeafaaGreatDoorQSP
import Derived.Lib.Join
namespace Go.Proofs.YtpenbkfchgeafaaGreatDoor
open Go.Lib

/-- Numbers as a text. -/
def listT (xs : List Int) : List UInt8 := join (xs.map itoa) [44]
def tWrong : List UInt8 := [119, 114, 111, 110, 103]
def tWhat : List UInt8 := [119, 104, 97, 116]
def tNone : List UInt8 := [110, 111, 110, 101]
def tRest : List UInt8 := [114, 101, 115, 116]
def tSums : List UInt8 := [115, 117, 109, 115]
def tWays : List UInt8 := [119, 97, 121, 115]
def tCoins : List UInt8 := [99, 111, 105, 110, 115]
def tBill : List UInt8 := [98, 105, 108, 108]
/-- What is said to a question, nothing if its numbers are not those of its function. -/
def saidV (w : List UInt8) (x : Int) (ls : List Int) : List UInt8 :=
  if w = tRest then listT (restL x ls)
  else if w = tSums then listT (sumsL x ls)
  else if w = tBill then listT (billL ls)
  else if w = tWays then (if waysV ls x < 0 then [] else itoa (waysV ls x))
  else if w = tCoins then (if (vCoins ls && inR x 0 120) = true then (if cFew ls x = true then listT (fewL ls x) else tNone) else [])
  else []
def orWrong (l : List UInt8) : List UInt8 := if l = [] then tWrong else l
/-- The words with an amount. -/
def isTwo (w : List UInt8) : Bool := decide (w = tRest ∨ w = tSums ∨ w = tWays ∨ w = tCoins)
/-- The numbers that the program reads. -/
def numsV : List (List UInt8) → Option (List Int)
  | [] => some []
  | p :: ps => match numV p with
    | none => none
    | some n => match numsV ps with
      | none => none
      | some ns => some (n :: ns)
/-- The model's answer to a line. -/
def modelV (l : List UInt8) : List UInt8 := match pieces 32 l with
  | [w, b] => if w = tBill then orWrong (saidV w 0 ((pieces 44 b).map readV)) else tWhat
  | [w, a, b] => if isTwo w = true then orWrong (saidV w (readV a) ((pieces 44 b).map readV)) else tWhat
  | _ => tWhat
/-- The program's answer to a line. -/
def progV (l : List UInt8) : List UInt8 := match pieces 32 l with
  | [w, b] => if w = tBill then (match numsV (pieces 44 b) with | none => tWrong | some ns => orWrong (saidV w 0 ns)) else tWhat
  | [w, a, b] => if isTwo w = true then (match numsV (pieces 44 b) with | none => tWrong | some ns => match numV a with | none => tWrong | some x => orWrong (saidV w x ns)) else tWhat
  | _ => tWhat

/-- A number out of all ranges. -/
def Bad (n : Int) : Prop := n < 0 ∨ 1000009 < n
theorem listT_nil : listT [] = [] := rfl
theorem share_bad_amount {x : Int} (h : Bad x) (ls : List Int) : cShare x ls = false := by
  unfold cShare
  have : inR x 0 100000 = false := by unfold inR; rw [decide_eq_false_iff_not]; unfold Bad at h; omega
  rw [this]; rfl
theorem allR_bad {ls : List Int} {lo hi : Int} (h : ∃ n ∈ ls, Bad n) (h0 : 0 ≤ lo) (h1 : hi ≤ 1000009) : allR ls lo hi = false := by
  obtain ⟨n, hn, hb⟩ := h
  cases ha : allR ls lo hi
  · rfl
  · have := allR_true ha n hn
    unfold Bad at hb
    omega
theorem share_bad_list {ls : List Int} (h : ∃ n ∈ ls, Bad n) (x : Int) : cShare x ls = false := by
  unfold cShare vParts
  rw [allR_bad h (by omega) (by omega)]
  simp
theorem bill_bad {ls : List Int} (h : ∃ n ∈ ls, Bad n) : billL ls = [] := by
  obtain ⟨n, hn, hb⟩ := h
  have : billOK ls = false := by
    unfold billOK
    have : (ls.all fun x => inR x 0 50) = false := by
      cases ha : ls.all fun x => inR x 0 50
      · rfl
      · rw [List.all_eq_true] at ha
        have := inR_true (ha n hn)
        unfold Bad at hb
        omega
    rw [this]; rfl
  unfold billL
  rw [this]; rfl
theorem coins_bad {ls : List Int} (h : ∃ n ∈ ls, Bad n) : vCoins ls = false := by
  obtain ⟨n, hn, hb⟩ := h
  cases hv : vCoins ls
  · rfl
  · obtain ⟨i, hi, e⟩ := mem_getD hn
    have := vc_at hv hi
    unfold Bad at hb
    omega
theorem paid_bad {x : Int} (h : Bad x) : inR x 0 120 = false := by
  unfold inR; rw [decide_eq_false_iff_not]; unfold Bad at h; omega
theorem ways_bad {ls : List Int} {x : Int} (h : (vCoins ls && inR x 0 120) = false) : waysV ls x = -1 := by
  unfold waysV
  rw [if_neg]
  rw [← Bool.and_eq_true, h]
  simp
/-- Nothing is said where a number is out of all ranges. -/
theorem said_bad {w : List UInt8} {x : Int} {ls : List Int} (h : (∃ n ∈ ls, Bad n) ∨ (Bad x ∧ w ≠ tBill)) : saidV w x ls = [] := by
  have hs : w ≠ tBill → cShare x ls = false := fun hw => by
    rcases h with h | h
    · exact share_bad_list h x
    · exact share_bad_amount h.1 ls
  have hc : w ≠ tBill → (vCoins ls && inR x 0 120) = false := fun hw => by
    rcases h with h | h
    · rw [coins_bad h]; rfl
    · rw [paid_bad h.1, Bool.and_false]
  unfold saidV
  split
  · rename_i e
    have hw : w ≠ tBill := by rw [e]; decide
    unfold restL; rw [hs hw]; rfl
  · split
    · rename_i e
      have hw : w ≠ tBill := by rw [e]; decide
      unfold sumsL; rw [hs hw]; rfl
    · split
      · rename_i e
        rcases h with h | h
        · rw [bill_bad h]; rfl
        · exact absurd e h.2
      · rename_i hw
        split
        · rw [ways_bad (hc hw), if_pos (by omega)]
        · split
          · rw [hc hw, if_neg (by simp)]
          · rfl
theorem read_bad {l : List UInt8} (h : readV l < 0) : Bad (readV l) := .inl h
theorem nums_cases : ∀ ps : List (List UInt8), numsV ps = some (ps.map readV) ∨ ((∃ n ∈ ps.map readV, Bad n) ∧ (numsV ps = none ∨ ∃ ns, numsV ps = some ns ∧ ∃ n ∈ ns, Bad n))
  | [] => .inl rfl
  | p :: ps => by
    by_cases hp : 0 ≤ readV p
    · obtain ⟨e, _⟩ := read_num hp
      rcases nums_cases ps with h | ⟨⟨n, hn, hb⟩, h⟩
      · exact .inl (by simp [numsV, e, h])
      · refine .inr ⟨⟨n, by simp only [List.map_cons, List.mem_cons]; exact .inr hn, hb⟩, ?_⟩
        rcases h with h | ⟨ns, h, m, hm, hmb⟩
        · exact .inl (by simp [numsV, e, h])
        · exact .inr ⟨readV p :: ns, by simp [numsV, e, h], m, by simp [hm], hmb⟩
    · have hlt : readV p < 0 := by omega
      refine .inr ⟨⟨readV p, by simp, read_bad hlt⟩, ?_⟩
      rcases read_none hlt with h | ⟨n, h, hb⟩
      · exact .inl (by simp [numsV, h])
      · cases hns : numsV ps with
        | none => exact .inl (by simp [numsV, h, hns])
        | some ns => exact .inr ⟨n :: ns, by simp [numsV, h, hns], n, by simp, hb⟩
theorem orWrong_nil : orWrong [] = tWrong := rfl
theorem two_ne {w : List UInt8} (h : isTwo w = true) : w ≠ tBill := by
  unfold isTwo at h
  rw [decide_eq_true_iff] at h
  rcases h with h | h | h | h <;> rw [h] <;> decide
/-- THE PROGRAM's ANSWER IS THE MODEL's. -/
theorem prog_model (l : List UInt8) : progV l = modelV l := by
  unfold progV modelV
  split
  · rename_i w b _
    split
    · rcases nums_cases (pieces 44 b) with h | ⟨hb, h⟩
      · rw [h]
      · rw [said_bad (.inl hb)]
        rcases h with h | ⟨ns, h, hns⟩
        · rw [h]; rfl
        · rw [h]
          simp only []
          rw [said_bad (.inl hns)]
    · rfl
  · rename_i w a b _
    split
    · rename_i ht
      rcases nums_cases (pieces 44 b) with h | ⟨hb, h⟩
      · rw [h]
        simp only []
        by_cases ha : 0 ≤ readV a
        · rw [(read_num ha).1]
        · have hlt : readV a < 0 := by omega
          rw [said_bad (.inr ⟨read_bad hlt, two_ne ht⟩)]
          rcases read_none hlt with h | ⟨n, h, hn⟩
          · rw [h]; rfl
          · rw [h]
            simp only []
            rw [said_bad (.inr ⟨hn, two_ne ht⟩)]
      · rw [said_bad (.inl hb)]
        rcases h with h | ⟨ns, h, hns⟩
        · rw [h]; rfl
        · rw [h]
          simp only []
          cases numV a with
          | none => rfl
          | some x =>
            simp only []
            rw [said_bad (.inl hns)]
    · rfl
  · rfl
end Go.Proofs.YtpenbkfchgeafaaGreatDoor
