/- Ways that come back: where no circle of different moneys gains, no way that comes back gains. -/
import Derived.Test.YtiffjeclpgcabaaRatM
namespace Go.Proofs.Ytiffjeclpgcabaa

theorem nodup_len : ∀ (n : Nat) (l : List Nat), l.Nodup → (∀ x ∈ l, x < n) → l.length ≤ n := by
  intro n
  induction n with
  | zero =>
    intro l _ h
    cases l with
    | nil => exact Nat.le_refl _
    | cons a t => have := h a (by simp); omega
  | succ n ih =>
    intro l hd h
    have hd2 : (l.erase n).Nodup := hd.erase n
    have h2 := ih (l.erase n) hd2 (fun x hx => by
      have h3 := (hd.mem_erase_iff).1 hx
      have := h x h3.2
      have := h3.1
      omega)
    by_cases hm : n ∈ l
    · rw [List.length_erase_of_mem hm] at h2; omega
    · rw [List.erase_of_not_mem hm] at h2; omega

theorem split_dup : ∀ l : List Nat, ¬ l.Nodup → ∃ xs v ys zs, l = xs ++ v :: (ys ++ v :: zs) := by
  intro l
  induction l with
  | nil => intro h; exact absurd List.nodup_nil h
  | cons a t ih =>
    intro h
    by_cases hm : a ∈ t
    · obtain ⟨ys, zs, e⟩ := List.append_of_mem hm
      exact ⟨[], a, ys, zs, by rw [e]; rfl⟩
    · have : ¬ t.Nodup := fun ht => h (List.nodup_cons.2 ⟨hm, ht⟩)
      obtain ⟨xs, v, ys, zs, e⟩ := ih this
      exact ⟨a :: xs, v, ys, zs, by rw [e]; rfl⟩

section
variable {W : Nat → Nat → Int × Int} {N : Nat}

theorem pw_split (xs : List Nat) (v : Nat) (ys : List Nat) : pw W (xs ++ v :: ys) = rMul (pw W (xs ++ [v])) (pw W (v :: ys)) := by
  induction xs with
  | nil => simp [pw, one_rMul]
  | cons a t ih =>
    cases t with
    | nil => simp [pw, rMul_one]
    | cons b t =>
      show rMul (W a b) (pw W (b :: t ++ v :: ys)) = rMul (rMul (W a b) (pw W (b :: t ++ [v]))) (pw W (v :: ys))
      rw [ih, rMul_assoc]

/-- The best rate from one money to another one. -/
def bestD (W : Nat → Nat → Int × Int) (N : Nat) (a b : Nat) : Int × Int := bestM W N b 2 (fun j => decide (j = a)) a (1, 1)

theorem bestD_bd (hW : ∀ i j, i < N → j < N → rB (W i j) 20) {a b : Nat} (ha : a < N) (hb : b < N) : rB (bestD W N a b) 8000 := by
  have := bestM_bd hW hb 2 (fun j => decide (j = a)) a (1, 1) 1 ha ⟨by decide, by decide⟩
  simpa [bestD] using this
theorem bestD_co (hW : ∀ i j, i < N → j < N → rB (W i j) 20) {a b : Nat} (ha : a < N) (hb : b < N) : rCo (bestD W N a b) := bestM_co hW hb 2 _ a _ ha rPos_one

theorem bestD_is (hW : ∀ i j, i < N → j < N → rB (W i j) 20) {a b : Nat} (ha : a < N) (hb : b < N) : ∃ q : List Nat, (∀ x ∈ q, x < N) ∧ rLe (bestD W N a b) (pw W (a :: (q ++ [b]))) := by
  obtain ⟨q, hq, h⟩ := bestM_is hW hb 2 (fun j => decide (j = a)) a (1, 1) ha rPos_one
  rw [one_rMul] at h
  exact ⟨q, hq, h⟩

theorem bestD_way (hW : ∀ i j, i < N → j < N → rB (W i j) 20) (hN : N ≤ 4) {a b : Nat} (ha : a < N) (hb : b < N) {p : List Nat} (hd : (a :: (p ++ [b])).Nodup) (hx : ∀ x ∈ p, x < N) : rLe (pw W (a :: (p ++ [b]))) (bestD W N a b) := by
  have hl := nodup_len N (a :: (p ++ [b])) hd (fun x h => by
    simp at h
    rcases h with rfl | h | rfl
    · exact ha
    · exact hx x h
    · exact hb)
  simp at hl
  obtain ⟨h1, h2⟩ := List.nodup_cons.1 hd
  have h3 := List.nodup_append.1 h2
  have := bestM_ge hW hb p 2 (fun j => decide (j = a)) a (1, 1) ha rPos_one (by omega) h3.1 (fun x h => by
    refine ⟨hx x h, ?_, fun e => h3.2.2 x h b (by simp) e⟩
    have : x ≠ a := fun e => h1 (by simp [← e, h])
    simpa using this)
  rwa [one_rMul] at this

/-- The rate there is no more than the best one. -/
theorem bestD_ge (hW : ∀ i j, i < N → j < N → rB (W i j) 20) (hN : N ≤ 4) {a b : Nat} (ha : a < N) (hb : b < N) (hab : a ≠ b) : rLe (W a b) (bestD W N a b) := by
  have := bestD_way hW hN ha hb (p := []) (by simpa using hab) (by simp)
  simpa [pw, rMul_one] using this

/-- What a way is at most, where no circle gains. -/
def WayOk (W : Nat → Nat → Int × Int) (N : Nat) (l : List Nat) : Prop := ∀ a b, l.head? = some a → l.getLast? = some b → (a = b → rLe (pw W l) (1, 1)) ∧ (a ≠ b → rLe (pw W l) (bestD W N a b))

/-- A part that comes back is left out. -/
theorem way_cut (hW : ∀ i j, i < N → j < N → rB (W i j) 20) {xs ys zs : List Nat} {v : Nat} (hl : ∀ x ∈ xs ++ v :: (ys ++ v :: zs), x < N) (h1 : WayOk W N (v :: (ys ++ [v]))) (h2 : WayOk W N (xs ++ v :: zs)) : WayOk W N (xs ++ v :: (ys ++ v :: zs)) := by
  have hv : v < N := hl v (by simp)
  have pA : rPos (pw W (xs ++ [v])) := pw_pos hW _ (fun x hx => hl x (by simp at hx ⊢; rcases hx with hx | hx <;> (first | simp [hx] | simp_all)))
  have pB : rPos (pw W (v :: (ys ++ [v]))) := pw_pos hW _ (fun x hx => hl x (by simp at hx ⊢; rcases hx with hx | hx | hx <;> (first | simp [hx] | simp_all)))
  have pC : rPos (pw W (v :: zs)) := pw_pos hW _ (fun x hx => hl x (by simp at hx ⊢; rcases hx with hx | hx <;> (first | simp [hx] | simp_all)))
  have hlast : (v :: (ys ++ [v])).getLast? = some v := by rw [show v :: (ys ++ [v]) = (v :: ys) ++ [v] from rfl, List.getLast?_append]; rfl
  have c1 := (h1 v v rfl hlast).1 rfl
  have e1 : pw W (xs ++ v :: (ys ++ v :: zs)) = rMul (pw W (xs ++ [v])) (rMul (pw W (v :: (ys ++ [v]))) (pw W (v :: zs))) := by
    rw [pw_split, show v :: (ys ++ v :: zs) = (v :: ys) ++ v :: zs from rfl, pw_split (v :: ys)]
    rfl
  have e2 : pw W (xs ++ v :: zs) = rMul (pw W (xs ++ [v])) (rMul (1, 1) (pw W (v :: zs))) := by rw [pw_split, one_rMul]
  have hle : rLe (pw W (xs ++ v :: (ys ++ v :: zs))) (pw W (xs ++ v :: zs)) := by
    rw [e1, e2]
    exact rLe_mul pA pA (rMul_pos pB pC) (rMul_pos rPos_one pC) (rLe_refl _) (rLe_mul pB rPos_one pC pC c1 (rLe_refl _))
  have q1 : rPos (pw W (xs ++ v :: (ys ++ v :: zs))) := pw_pos hW _ hl
  have q2 : rPos (pw W (xs ++ v :: zs)) := by rw [e2]; exact rMul_pos pA (rMul_pos rPos_one pC)
  intro a b ha hb
  have ha2 : (xs ++ v :: zs).head? = some a := by
    cases xs with
    | nil => simpa using ha
    | cons x t => simpa using ha
  have hb2 : (xs ++ v :: zs).getLast? = some b := by
    rw [← hb]
    rw [show xs ++ v :: (ys ++ v :: zs) = (xs ++ v :: ys) ++ (v :: zs) by simp, List.getLast?_append, List.getLast?_append]
    cases hz : (v :: zs).getLast? with
    | none => simp at hz
    | some z => rfl
  have haN : a < N := hl a (by
    have := List.mem_of_mem_head? (show a ∈ (xs ++ v :: (ys ++ v :: zs)).head? from ha)
    exact this)
  have hbN : b < N := hl b (List.mem_of_getLast? hb)
  obtain ⟨g1, g2⟩ := h2 a b ha2 hb2
  exact ⟨fun e => rLe_trans q1 q2 rPos_one hle (g1 e), fun e => rLe_trans q1 q2 (bestD_bd hW haN hbN).pos hle (g2 e)⟩

/-- Where no circle of different moneys gains, no way that comes back does. -/
theorem ways_ok (hW : ∀ i j, i < N → j < N → rB (W i j) 20) (hN : N ≤ 4) (h1 : ∀ a, a < N → W a a = (1, 1)) (hc : ∀ a b, a < N → b < N → a ≠ b → rLe (rMul (bestD W N a b) (W b a)) (1, 1)) : ∀ (n : Nat) (l : List Nat), l.length ≤ n → (∀ x ∈ l, x < N) → WayOk W N l := by
  intro n
  induction n with
  | zero =>
    intro l hl _ a b ha
    cases l with
    | nil => simp at ha
    | cons x t => simp at hl
  | succ n ih =>
    intro l hl hx
    by_cases hd : l.Nodup
    · intro a b ha hb
      cases l with
      | nil => simp at ha
      | cons x t =>
        simp at ha
        subst ha
        rcases List.eq_nil_or_concat t with rfl | ⟨p, c, e⟩
        · simp at hb
          subst hb
          exact ⟨fun _ => rLe_refl _, fun h => absurd rfl h⟩
        · rw [List.concat_eq_append] at e
          subst e
          have hcb : c = b := by
            rw [show x :: (p ++ [c]) = (x :: p) ++ [c] from rfl, List.getLast?_append] at hb
            simpa using hb
          subst hcb
          have hne : x ≠ c := fun e => (List.nodup_cons.1 hd).1 (by simp [e])
          exact ⟨fun e => absurd e hne, fun _ => bestD_way hW hN (hx x (by simp)) (hx c (by simp)) hd (fun y hy => hx y (by simp [hy]))⟩
    · obtain ⟨xs, v, ys, zs, e⟩ := split_dup l hd
      subst e
      by_cases hs : xs = [] ∧ zs = []
      · obtain ⟨rfl, rfl⟩ := hs
        have hv : v < N := hx v (by simp)
        by_cases hd2 : (v :: ys).Nodup
        · intro a b ha hb
          have ea : a = v := by simpa using ha.symm
          have eb : b = v := by
            rw [show [] ++ v :: (ys ++ [v]) = (v :: ys) ++ [v] from rfl, List.getLast?_append] at hb
            simpa using hb.symm
          subst ea
          subst eb
          refine ⟨fun _ => ?_, fun h => absurd rfl h⟩
          rcases List.eq_nil_or_concat ys with rfl | ⟨p, c, e⟩
          · have : pw W ([] ++ b :: ([] ++ [b])) = (1, 1) := by simp [pw, rMul_one, h1 b hv]
            rw [this]; exact rLe_refl _
          · rw [List.concat_eq_append] at e
            subst e
            have hcN : c < N := hx c (by simp)
            have hne : b ≠ c := fun e => (List.nodup_cons.1 hd2).1 (by simp [e])
            have g := bestD_way hW hN hv hcN hd2 (fun y hy => hx y (by simp [hy]))
            have e1 : pw W ([] ++ b :: (p ++ [c] ++ [b])) = rMul (pw W (b :: (p ++ [c]))) (W c b) := by
              rw [show [] ++ b :: (p ++ [c] ++ [b]) = (b :: p) ++ c :: [b] by simp, pw_split]
              simp [pw, rMul_one]
            rw [e1]
            have p1 : rPos (pw W (b :: (p ++ [c]))) := pw_pos hW _ (fun y hy => hx y (by simp at hy ⊢; rcases hy with hy | hy | hy <;> simp [hy]))
            have p2 := (bestD_bd hW hv hcN).pos
            have p3 := (hW c b hcN hv).pos
            exact rLe_trans (rMul_pos p1 p3) (rMul_pos p2 p3) rPos_one (rLe_mul p1 p2 p3 p3 g (rLe_refl _)) (hc b c hv hcN hne)
        · obtain ⟨xs', u, ys', zs', e⟩ := split_dup _ hd2
          have e2 : [] ++ v :: (ys ++ v :: []) = xs' ++ u :: (ys' ++ u :: (zs' ++ [v])) := by
            have : v :: (ys ++ [v]) = (v :: ys) ++ [v] := rfl
            rw [List.nil_append, this, e]
            simp
          have hlen := congrArg List.length e
          rw [e2] at hx ⊢
          simp at hlen hl
          refine way_cut hW hx (ih _ (by simp; omega) (fun x h => hx x ?_)) (ih _ (by simp; omega) (fun x h => hx x ?_))
          · simp at h ⊢; rcases h with h | h | h <;> simp [h]
          · simp at h ⊢; rcases h with h | h | h | h <;> simp [h]
      · have hlt : 1 ≤ xs.length + zs.length := by
          cases xs with
          | nil =>
            cases zs with
            | nil => exact absurd ⟨rfl, rfl⟩ hs
            | cons z t => simp
          | cons x t => simp; omega
        simp at hl
        refine way_cut hW hx (ih _ (by simp; omega) (fun x h => hx x ?_)) (ih _ (by simp; omega) (fun x h => hx x ?_))
        · simp at h ⊢; rcases h with h | h | h <;> simp [h]
        · simp at h ⊢; rcases h with h | h | h <;> simp [h]

/-- Where no circle gains, the best rates there and back are at most 1 together. -/
theorem back_ok (hW : ∀ i j, i < N → j < N → rB (W i j) 20) (hN : N ≤ 4) (h1 : ∀ a, a < N → W a a = (1, 1)) (hc : ∀ a b, a < N → b < N → a ≠ b → rLe (rMul (bestD W N a b) (W b a)) (1, 1)) {a b : Nat} (ha : a < N) (hb : b < N) : rLe (rMul (bestD W N a b) (bestD W N b a)) (1, 1) := by
  obtain ⟨q, hq, g1⟩ := bestD_is hW ha hb
  obtain ⟨r, hr, g2⟩ := bestD_is hW hb ha
  have hx : ∀ x ∈ (a :: q) ++ b :: (r ++ [a]), x < N := by
    intro x h
    simp at h
    rcases h with rfl | h | rfl | h | rfl
    · exact ha
    · exact hq x h
    · exact hb
    · exact hr x h
    · exact ha
  have h := (ways_ok hW hN h1 hc _ ((a :: q) ++ b :: (r ++ [a])) (Nat.le_refl _) hx a a rfl (by
    rw [show (a :: q) ++ b :: (r ++ [a]) = ((a :: q) ++ b :: r) ++ [a] by simp, List.getLast?_append]; rfl)).1 rfl
  rw [pw_split] at h
  have p1 := (bestD_bd hW ha hb).pos
  have p2 := (bestD_bd hW hb ha).pos
  have p3 : rPos (pw W ((a :: q) ++ [b])) := pw_pos hW _ (fun x h => hx x (by simp at h ⊢; rcases h with h | h | h <;> simp [h]))
  have p4 : rPos (pw W (b :: (r ++ [a]))) := pw_pos hW _ (fun x h => hx x (by simp at h ⊢; rcases h with h | h | h <;> simp [h]))
  exact rLe_trans (rMul_pos p1 p2) (rMul_pos p3 p4) rPos_one (rLe_mul p1 p3 p2 p4 g1 g2) h

end

/-! ### Gains -/

section
variable (W : Nat → Nat → Int × Int) (N : Nat)

/-- The best gain over circles through the first pairs: row a, the first j columns. -/
def gainRow (a : Nat) (s : Int × Int) : Nat → Int × Int
  | 0 => s
  | j + 1 => if a ≠ j then rMax (gainRow a s j) (rProd (bestD W N a j) (W j a)) else gainRow a s j
/-- The best gain over circles through the first rows. -/
def gainUp (s : Int × Int) : Nat → Int × Int
  | 0 => s
  | i + 1 => gainRow W N i (gainUp s i) N
/-- The greatest gain. -/
def gainV : Int × Int := gainUp W N (rProd (W 0 1) (W 1 0)) N
end

section
variable {W : Nat → Nat → Int × Int} {N : Nat}

/-- What holds of the start and of all circles holds of the best gain. -/
theorem gainRow_is {P : Int × Int → Prop} {a : Nat} {s : Int × Int} (h0 : P s) : ∀ j, (∀ b, b < j → a ≠ b → P (rProd (bestD W N a b) (W b a))) → P (gainRow W N a s j) := by
  intro j
  induction j with
  | zero => intro _; exact h0
  | succ j ih =>
    intro h
    have i0 := ih (fun b hb => h b (by omega))
    rw [gainRow]
    split
    · rename_i hne
      rcases rMax_or (gainRow W N a s j) (rProd (bestD W N a j) (W j a)) with e | e
      · rw [e]; exact i0
      · rw [e]; exact h j (Nat.lt_succ_self j) hne
    · exact i0

theorem gainUp_is {P : Int × Int → Prop} {s : Int × Int} (h0 : P s) : ∀ i, i ≤ N → (∀ a b, a < N → b < N → a ≠ b → P (rProd (bestD W N a b) (W b a))) → P (gainUp W N s i) := by
  intro i
  induction i with
  | zero => intro _ _; exact h0
  | succ i ih =>
    intro hi h
    exact gainRow_is (ih (by omega) h) N (fun b hb hne => h i b (by omega) hb hne)

theorem circ_bd (hW : ∀ i j, i < N → j < N → rB (W i j) 20) {a b : Nat} (ha : a < N) (hb : b < N) : rB (rProd (bestD W N a b) (W b a)) 160000 := rProd_bd (bestD_bd hW ha hb) (hW b a hb ha)

theorem start_bd (hW : ∀ i j, i < N → j < N → rB (W i j) 20) (h2 : 2 ≤ N) : rB (rProd (W 0 1) (W 1 0)) 160000 := (rProd_bd (hW 0 1 (by omega) (by omega)) (hW 1 0 (by omega) (by omega))).mono (by decide)

theorem gainRow_bd (hW : ∀ i j, i < N → j < N → rB (W i j) 20) {a : Nat} (ha : a < N) {s : Int × Int} (hs : rB s 160000) (j : Nat) (hj : j ≤ N) : rB (gainRow W N a s j) 160000 :=
  gainRow_is (P := fun x => rB x 160000) hs j (fun _ hb _ => circ_bd hW ha (by omega))

theorem gainUp_bd (hW : ∀ i j, i < N → j < N → rB (W i j) 20) {s : Int × Int} (hs : rB s 160000) (i : Nat) (hi : i ≤ N) : rB (gainUp W N s i) 160000 :=
  gainUp_is (P := fun x => rB x 160000) hs i hi (fun _ _ ha hb _ => circ_bd hW ha hb)

theorem gainV_bd (hW : ∀ i j, i < N → j < N → rB (W i j) 20) (h2 : 2 ≤ N) : rB (gainV W N) 160000 := gainUp_bd hW (start_bd hW h2) N (Nat.le_refl _)

theorem gainV_co (hW : ∀ i j, i < N → j < N → rB (W i j) 20) (h2 : 2 ≤ N) : rCo (gainV W N) :=
  gainUp_is (P := rCo) (rProd_co (hW 0 1 (by omega) (by omega)).pos (hW 1 0 (by omega) (by omega)).pos) N (Nat.le_refl _) (fun _ _ ha hb _ => rProd_co (bestD_bd hW ha hb).pos (hW _ _ hb ha).pos)

theorem gainRow_ge (hW : ∀ i j, i < N → j < N → rB (W i j) 20) {a : Nat} (ha : a < N) {s : Int × Int} (hs : rB s 160000) : ∀ j, j ≤ N → rLe s (gainRow W N a s j) ∧ ∀ b, b < j → a ≠ b → rLe (rProd (bestD W N a b) (W b a)) (gainRow W N a s j) := by
  intro j
  induction j with
  | zero => intro _; exact ⟨rLe_refl _, fun b hb => by omega⟩
  | succ j ih =>
    intro hj
    have i0 := ih (by omega)
    have p0 := (gainRow_bd hW ha hs j (by omega)).pos
    have p1 := (gainRow_bd hW ha hs (j + 1) hj).pos
    rw [gainRow] at p1 ⊢
    split
    · rename_i hne
      rw [if_pos hne] at p1
      have hl := rMax_l (gainRow W N a s j) (rProd (bestD W N a j) (W j a))
      refine ⟨rLe_trans hs.pos p0 p1 i0.1 hl, fun b hb hn => ?_⟩
      by_cases e : b = j
      · subst e; exact rMax_r _ _
      · exact rLe_trans (circ_bd hW ha (by omega)).pos p0 p1 (i0.2 b (by omega) hn) hl
    · rename_i hne
      refine ⟨i0.1, fun b hb hn => ?_⟩
      by_cases e : b = j
      · subst e; exact absurd hn hne
      · exact i0.2 b (by omega) hn

theorem gainUp_ge (hW : ∀ i j, i < N → j < N → rB (W i j) 20) {s : Int × Int} (hs : rB s 160000) : ∀ i, i ≤ N → rLe s (gainUp W N s i) ∧ ∀ a b, a < i → b < N → a ≠ b → rLe (rProd (bestD W N a b) (W b a)) (gainUp W N s i) := by
  intro i
  induction i with
  | zero => intro _; exact ⟨rLe_refl _, fun a b ha => by omega⟩
  | succ i ih =>
    intro hi
    have i0 := ih (by omega)
    have s0 := gainUp_bd hW hs i (by omega)
    have s1 := gainUp_bd hW hs (i + 1) hi
    have r0 := gainRow_ge hW (show i < N by omega) s0 N (Nat.le_refl _)
    refine ⟨rLe_trans hs.pos s0.pos s1.pos i0.1 r0.1, fun a b ha hb hn => ?_⟩
    by_cases e : a = i
    · subst e; exact r0.2 b hb hn
    · exact rLe_trans (circ_bd hW (by omega) hb).pos s0.pos s1.pos (i0.2 a b (by omega) hb hn) r0.1

/-- A gain is no less than those there and back. -/
theorem gainV_ge (hW : ∀ i j, i < N → j < N → rB (W i j) 20) (hN : N ≤ 4) (h2 : 2 ≤ N) {a b : Nat} (ha : a < N) (hb : b < N) (hab : a ≠ b) : rLe (rMul (W a b) (W b a)) (gainV W N) ∧ rLe (rMul (bestD W N a b) (W b a)) (gainV W N) := by
  have h := (gainUp_ge hW (start_bd hW h2) N (Nat.le_refl _)).2 a b ha hb hab
  have d := bestD_bd hW ha hb
  have w1 := hW a b ha hb
  have w2 := hW b a hb ha
  have g := gainV_bd hW h2
  have h3 : rLe (rMul (bestD W N a b) (W b a)) (gainV W N) := rLe_trans (rMul_pos d.pos w2.pos) (rProd_pos d.pos w2.pos) g.pos (le_rRed (rMul_pos d.pos w2.pos)) h
  exact ⟨rLe_trans (rMul_pos w1.pos w2.pos) (rMul_pos d.pos w2.pos) g.pos (rLe_mul w1.pos d.pos w2.pos w2.pos (bestD_ge hW hN ha hb hab) (rLe_refl _)) h3, h3⟩

theorem rLe_one {x : Int × Int} : rLe x (1, 1) ↔ x.1 ≤ x.2 := by simp [rLe]

/-- No circle gains exactly if the best rates there and back are at most 1 together. -/
theorem closed_iff (hW : ∀ i j, i < N → j < N → rB (W i j) 20) (hN : N ≤ 4) (h2 : 2 ≤ N) (h1 : ∀ a, a < N → W a a = (1, 1)) :
    (gainV W N).1 ≤ (gainV W N).2 ↔ ∀ a b, a < N → b < a → (bestD W N a b).1 * (bestD W N b a).1 ≤ (bestD W N a b).2 * (bestD W N b a).2 := by
  constructor
  · intro h a b ha hb
    have := back_ok hW hN h1 (fun x y hx hy hxy => rLe_trans (rMul_pos (bestD_bd hW hx hy).pos (hW y x hy hx).pos) (gainV_bd hW h2).pos rPos_one (gainV_ge hW hN h2 hx hy hxy).2 (rLe_one.2 h)) ha (show b < N by omega)
    exact rLe_one.1 this
  · intro h
    have hall : ∀ a b, a < N → b < N → a ≠ b → rLe (rMul (bestD W N a b) (bestD W N b a)) (1, 1) := by
      intro a b ha hb hab
      rw [rLe_one]
      show (bestD W N a b).1 * (bestD W N b a).1 ≤ (bestD W N a b).2 * (bestD W N b a).2
      rcases Nat.lt_or_gt_of_ne hab with h3 | h3
      · have := h b a hb h3
        rwa [Int.mul_comm (bestD W N a b).1, Int.mul_comm (bestD W N a b).2]
      · exact h a b ha h3
    have hcirc : ∀ a b, a < N → b < N → a ≠ b → rLe (rProd (bestD W N a b) (W b a)) (1, 1) := by
      intro a b ha hb hab
      have d := (bestD_bd hW ha hb).pos
      have d2 := (bestD_bd hW hb ha).pos
      have w := (hW b a hb ha).pos
      exact rLe_trans (rProd_pos d w) (rMul_pos d w) rPos_one (rRed_le (rMul_pos d w)) (rLe_trans (rMul_pos d w) (rMul_pos d d2) rPos_one (rLe_mul d d w d2 (rLe_refl _) (bestD_ge hW hN hb ha (fun e => hab e.symm))) (hall a b ha hb hab))
    have hstart : rLe (rProd (W 0 1) (W 1 0)) (1, 1) := by
      have h01 : (0 : Nat) < N := by omega
      have h11 : (1 : Nat) < N := by omega
      have w1 := (hW 0 1 h01 h11).pos
      have w2 := (hW 1 0 h11 h01).pos
      have d := (bestD_bd hW h01 h11).pos
      have d2 := (bestD_bd hW h11 h01).pos
      exact rLe_trans (rProd_pos w1 w2) (rMul_pos w1 w2) rPos_one (rRed_le (rMul_pos w1 w2)) (rLe_trans (rMul_pos w1 w2) (rMul_pos d d2) rPos_one (rLe_mul w1 d w2 d2 (bestD_ge hW hN h01 h11 (by decide)) (bestD_ge hW hN h11 h01 (by decide))) (hall 0 1 h01 h11 (by decide)))
    exact rLe_one.1 (gainUp_is (P := fun x => rLe x (1, 1)) hstart N (Nat.le_refl _) hcirc)

/-- The first circle is no less than the start. -/
theorem gain_first (hW : ∀ i j, i < N → j < N → rB (W i j) 20) (hN : N ≤ 4) (h2 : 2 ≤ N) : rMax (rProd (W 0 1) (W 1 0)) (rProd (bestD W N 0 1) (W 1 0)) = rProd (bestD W N 0 1) (W 1 0) := by
  have h01 : (0 : Nat) < N := by omega
  have h11 : (1 : Nat) < N := by omega
  have w1 := (hW 0 1 h01 h11).pos
  have w2 := (hW 1 0 h11 h01).pos
  have d := (bestD_bd hW h01 h11).pos
  have hle : rLe (rProd (W 0 1) (W 1 0)) (rProd (bestD W N 0 1) (W 1 0)) :=
    rLe_trans (rProd_pos w1 w2) (rMul_pos w1 w2) (rProd_pos d w2) (rRed_le (rMul_pos w1 w2)) (rLe_trans (rMul_pos w1 w2) (rMul_pos d w2) (rProd_pos d w2) (rLe_mul w1 d w2 w2 (bestD_ge hW hN h01 h11 (by decide)) (rLe_refl _)) (le_rRed (rMul_pos d w2)))
  unfold rMax
  split
  · rfl
  · rename_i hlt
    unfold rLe at hle
    exact rCo_eq (rProd_pos w1 w2) (rProd_pos d w2) (rProd_co w1 w2) (rProd_co d w2) (by omega)

end

end Go.Proofs.Ytiffjeclpgcabaa
