/- A rule's text in pieces, as it is put together. No program in it. -/
import Derived.Test.YtcjnhhbcleljmaaGreatDoorRulZb
import Derived.Lib.Join
namespace Go.Proofs.YtcjnhhbcleljmaaGreatDoor.V

def joinC (xs : List (List UInt8)) : List UInt8 := Lib.join xs [44, 32]
theorem joinC_one (x : List UInt8) : joinC [x] = x := Lib.join_one _ _
theorem joinC_two (x y : List UInt8) (r : List (List UInt8)) : joinC (x :: y :: r) = x ++ 44 :: 32 :: joinC (y :: r) := by
  unfold joinC
  rw [Lib.join_cons, Lib.join_cons]
  simp [Lib.joinTail]
def condT (c : Cp) : List UInt8 :=
  if c.1 = 1 then textA c.2.1
  else if c.1 = 2 then [110, 111, 116, 32] ++ textA c.2.1
  else [91] ++ textX c.2.2.2.1 ++ [32] ++ howL c.2.2.1 ++ [32] ++ textX c.2.2.2.2 ++ [93]
def actT (a : Ap) : List UInt8 :=
  if a.1 = 2 then [100, 114, 111, 112, 32] ++ Lib.itoa a.2.2.2
  else if a.2.2.1 = [] then [43] ++ a.2.1
  else [43] ++ a.2.1 ++ [40] ++ joinC (a.2.2.1.map textX) ++ [41]
theorem glue_comma {α : Type} {f : List UInt8 → α → List (List UInt8 × Tk)} {g : α → List UInt8} : ∀ {l : List α} {s : List UInt8}, l ≠ [] → (∀ a ∈ l, ∀ s, glue (f s a) = s ++ g a) → glue (commaPs f s l) = s ++ joinC (l.map g) := by
  intro l
  induction l with
  | nil => intro s h; exact absurd rfl h
  | cons a r ih =>
    intro s _ h
    cases r with
    | nil => rw [commaPs_one, h a (by simp), List.map_singleton, joinC_one]
    | cons b r =>
      rw [commaPs_two, glue_app, h a (by simp), List.map_cons, List.map_cons, joinC_two]
      show _ ++ ([] ++ ([44] ++ glue (commaPs f [32] (b :: r)))) = _
      rw [ih (by simp) (fun x hx => h x (by simp [hx]))]
      simp
theorem glue_cond {c : Cp} (h : rightC' c = true) (s : List UInt8) : glue (condPs s c) = s ++ condT c := by
  unfold rightC' at h
  unfold condPs condT
  by_cases h1 : c.1 = 1
  · rw [if_pos h1, if_pos h1, glue_atom]
  · rw [if_neg h1, if_neg h1]
    by_cases h2 : c.1 = 2
    · rw [if_pos h2, if_pos h2]
      show s ++ (wordNot ++ glue (atomPs [32] c.2.1)) = _
      rw [glue_atom]
      simp [wordNot]
    · rw [if_neg (by omega)] at h
      rw [if_neg h2, if_neg h2]
      simp only [Bool.and_eq_true, decide_eq_true_eq] at h
      obtain ⟨_, _, hh, hl, hr⟩ := h
      show s ++ ([91] ++ glue (exprPs c.2.2.2.1 [] ++ ([32], 5, howL c.2.2.1, 0) :: (exprPs c.2.2.2.2 [32] ++ [([], 5, [93], 0)]))) = _
      rw [glue_app, glue_expr (expr_iff.1 hl).2.2]
      show s ++ ([91] ++ ([] ++ textX c.2.2.2.1 ++ ([32] ++ (howL c.2.2.1 ++ glue (exprPs c.2.2.2.2 [32] ++ [([], 5, [93], 0)]))))) = _
      rw [glue_app, glue_expr (expr_iff.1 hr).2.2]
      simp [glue]
theorem glue_act {n : Nat} {a : Ap} (h : rightAct n a = true) (s : List UInt8) : glue (actPs s a) = s ++ actT a := by
  unfold rightAct at h
  unfold actPs actT
  by_cases h1 : a.1 = 1
  · rw [if_pos h1] at h
    simp only [Bool.and_eq_true, decide_eq_true_eq, List.all_eq_true] at h
    obtain ⟨_, _, h4, _⟩ := h
    rw [if_pos h1, if_neg (by omega)]
    cases hl : a.2.2.1 with
    | nil => simp [glue]
    | cons x r =>
      rw [if_neg (by simp)]
      show s ++ ([43] ++ ([] ++ (a.2.1 ++ ([] ++ ([40] ++ glue (commaPs (fun s l => exprPs l s) [] (x :: r) ++ [([], 5, [41], 0)])))))) = _
      rw [hl] at h4
      rw [glue_app, glue_comma (g := textX) (by simp) (fun y hy s => glue_expr (expr_iff.1 (h4 y hy)).2.2 s)]
      simp [glue]
  · rw [if_neg h1] at h
    simp only [Bool.and_eq_true, decide_eq_true_eq] at h
    rw [if_neg h1, if_pos h.1]
    simp [glue, wordDrop]
/-- A rule's text in pieces. -/
def ruleT (r : Rp) : List UInt8 := [114, 117, 108, 101, 32] ++ r.1 ++ [32] ++ Lib.itoa r.2.1 ++ [58, 32] ++ joinC (r.2.2.1.map condT) ++ [32, 45, 62, 32] ++ joinC (r.2.2.2.map actT) ++ [46]
theorem textR_is {r : Rp} (h : rightR r = true) : textR r = ruleT r := by
  obtain ⟨h1, h2, h3, h4, h5, h6, h7⟩ := right_iff.1 h
  unfold textR rulePs ruleT
  show [] ++ (wordRule ++ ([32] ++ (r.1 ++ ([32] ++ (Lib.itoa r.2.1 ++ ([] ++ ([58] ++ glue (commaPs condPs [32] r.2.2.1 ++ ([32], 5, [45, 62], 0) :: (commaPs actPs [32] r.2.2.2 ++ [([], 5, [46], 0)])))))))))  = _
  rw [glue_app, glue_comma (g := condT) (by rintro e; rw [e] at h3; simp at h3) (fun c hc s => glue_cond (h6 c hc) s)]
  show [] ++ (wordRule ++ ([32] ++ (r.1 ++ ([32] ++ (Lib.itoa r.2.1 ++ ([] ++ ([58] ++ ([32] ++ joinC (r.2.2.1.map condT) ++ ([32] ++ ([45, 62] ++ glue (commaPs actPs [32] r.2.2.2 ++ [([], 5, [46], 0)]))))))))))) = _
  rw [glue_app, glue_comma (g := actT) (by rintro e; rw [e] at h5; simp at h5) (fun a ha s => glue_act (h7 a ha) s)]
  simp [glue, wordRule]
theorem join_le (m : Nat) : ∀ {l : List (List UInt8)}, (∀ x ∈ l, x.length ≤ m) → (joinC l).length ≤ (m + 2) * l.length := by
  intro l
  induction l with
  | nil => intro _; simp [joinC, Lib.join_nil]
  | cons a r ih =>
    intro h
    have h1 := h a (by simp)
    cases r with
    | nil => rw [joinC_one]; simp; omega
    | cons b r =>
      rw [joinC_two]
      have := ih (fun x hx => h x (by simp [hx]))
      have e : (m + 2) * (a :: b :: r).length = (m + 2) * (b :: r).length + (m + 2) := by simp [Nat.mul_add]
      simp only [List.length_append, List.length_cons] at this e ⊢
      omega
theorem howL_len (h : Int) : (howL h).length ≤ 2 := by
  unfold howL
  split
  · simp
  · split
    · simp
    · split <;> simp
theorem condT_len {c : Cp} (h : rightC' c = true) : (condT c).length ≤ 4000 := by
  unfold rightC' at h
  unfold condT
  by_cases h1 : c.1 = 1
  · rw [if_pos (Or.inl h1), Bool.and_eq_true] at h
    rw [if_pos h1]
    have := textA_len h.1
    omega
  · rw [if_neg h1]
    by_cases h2 : c.1 = 2
    · rw [if_pos (Or.inr h2), Bool.and_eq_true] at h
      rw [if_pos h2]
      have := textA_len h.1
      simp; omega
    · rw [if_neg (by omega)] at h
      rw [if_neg h2]
      simp only [Bool.and_eq_true, decide_eq_true_eq] at h
      obtain ⟨_, _, hh, hl, hr⟩ := h
      have a1 := textX_len hl
      have a2 := textX_len hr
      have a3 := howL_len c.2.2.1
      simp; omega
theorem joinX_len {l : List (List Oo)} (h5 : l.length ≤ 5) (h : ∀ x ∈ l, exprB x = true) : (joinC (l.map textX)).length ≤ 9600 := by
  have := join_le 1900 (l := l.map textX) (fun x hx => by
    obtain ⟨y, hy, rfl⟩ := List.mem_map.1 hx
    exact textX_len (h y hy))
  rw [List.length_map] at this
  have h2 := Nat.mul_le_mul_left 1902 h5
  omega
theorem actT_len {n : Nat} (hn : n ≤ 6) {a : Ap} (h : rightAct n a = true) : (actT a).length ≤ 10000 := by
  unfold rightAct at h
  unfold actT
  by_cases h1 : a.1 = 1
  · rw [if_pos h1] at h
    simp only [Bool.and_eq_true, decide_eq_true_eq, List.all_eq_true] at h
    obtain ⟨h2, h3, h4, _⟩ := h
    rw [if_neg (by omega)]
    have := name_short h2
    split
    · simp; omega
    · have := joinX_len h3 h4
      simp; omega
  · rw [if_neg h1] at h
    simp only [Bool.and_eq_true, decide_eq_true_eq] at h
    rw [if_pos h.1]
    have := Lib.itoa_length_le a.2.2.2 (by omega) (by omega)
    simp; omega
theorem conds_len {r : Rp} (h : rightR r = true) : (joinC (r.2.2.1.map condT)).length ≤ 24100 := by
  obtain ⟨h1, h2, h3, h4, h5, h6, h7⟩ := right_iff.1 h
  have := join_le 4000 (l := r.2.2.1.map condT) (fun x hx => by
    obtain ⟨y, hy, rfl⟩ := List.mem_map.1 hx
    exact condT_len (h6 y hy))
  rw [List.length_map] at this
  have h2 := Nat.mul_le_mul_left 4002 h3.2
  omega
theorem acts_len {r : Rp} (h : rightR r = true) : (joinC (r.2.2.2.map actT)).length ≤ 60100 := by
  obtain ⟨h1, h2, h3, h4, h5, h6, h7⟩ := right_iff.1 h
  have hn := hasN_le r.2.2.1
  have := join_le 10000 (l := r.2.2.2.map actT) (fun x hx => by
    obtain ⟨y, hy, rfl⟩ := List.mem_map.1 hx
    exact actT_len (n := hasN r.2.2.1) (by omega) (h7 y hy))
  rw [List.length_map] at this
  have h2 := Nat.mul_le_mul_left 10002 h5.2
  omega
end Go.Proofs.YtcjnhhbcleljmaaGreatDoor.V

