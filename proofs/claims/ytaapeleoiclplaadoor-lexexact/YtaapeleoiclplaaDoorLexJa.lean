/- Signs joined, a blank between or more: the same signs; how long the joined text is. No program in it. -/
import Derived.Test.YtaapeleoiclplaaDoorLexM
import Derived.Test.YtaapeleoiclplaaDoorLexW
namespace Go.Proofs.YtaapeleoiclplaaDoor
open V

/-- How many bytes the texts of signs have together. -/
def lenT : List Tk → Nat
  | [] => 0
  | t :: r => t.2.1.length + lenT r
theorem lenT_app (a b : List Tk) : lenT (a ++ b) = lenT a + lenT b := by
  induction a with
  | nil => simp [lenT]
  | cons t a ih => simp [lenT, ih]; omega
theorem lenT_take (ts : List Tk) (k : Nat) : lenT (ts.take k) ≤ lenT ts := by
  have h := lenT_app (ts.take k) (ts.drop k)
  rw [List.take_append_drop] at h
  omega
theorem spots_len {S : List UInt8} : ∀ {ts : List Tk} {E : Nat}, E ≤ S.length → Spots S E ts → lenT ts + E ≤ S.length ∧ ts.length ≤ lenT ts := by
  intro ts
  induction ts with
  | nil => intro E hE _; exact ⟨by simp [lenT]; exact hE, by simp [lenT]⟩
  | cons t ts ih =>
    intro E hE h
    obtain ⟨h1, h2, _, h4, h5⟩ := h
    obtain ⟨i1, i2⟩ := ih h2 h5
    simp only [lenT, List.length_cons]
    omega
/-- Signs, a blank ahead of each but the first. -/
def oneP : List Tk → List (List UInt8 × Tk)
  | [] => []
  | t :: r => ([], t) :: r.map (fun t => ([32], t))
theorem oneP_snd (ts : List Tk) : (oneP ts).map (fun p => kt p.2) = ts.map kt := by
  cases ts with
  | nil => rfl
  | cons t r => simp [oneP, Function.comp_def]
theorem tm_text (S : List UInt8) (t : Tk) : (tm S t).2.1.data.toList = t.2.1 := rfl
theorem glue_map (S : List UInt8) (r : List Tk) : glue (r.map (fun t => ([32], t))) = ((r.map (tm S)).map (fun y : Tm => 32 :: y.2.1.data.toList)).flatten := by
  induction r with
  | nil => rfl
  | cons t r ih => simp only [List.map_cons, glue, List.flatten_cons, ih, tm_text]; simp
theorem glue_one (S : List UInt8) (ts : List Tk) : glue (oneP ts) = joinT (ts.map (tm S)) := by
  cases ts with
  | nil => rfl
  | cons t r =>
    simp only [oneP, glue, List.map_cons, joinT, tm_text, List.nil_append]
    rw [glue_map S]
theorem glue_app (a b : List (List UInt8 × Tk)) : glue (a ++ b) = glue a ++ glue b := by
  induction a with
  | nil => rfl
  | cons p a ih => simp [glue, ih]
theorem join_len (S : List UInt8) (ts : List Tk) : (joinT (ts.map (tm S))).length ≤ lenT ts + ts.length := by
  have h : ∀ r : List Tk, (((r.map (tm S)).map (fun y : Tm => 32 :: y.2.1.data.toList)).flatten).length = lenT r + r.length := by
    intro r
    induction r with
    | nil => rfl
    | cons t r ih =>
      simp only [List.map_cons, List.flatten_cons, List.length_append, ih, lenT, tm_text, List.length_cons]
      omega
  cases ts with
  | nil => simp [joinT]
  | cons t r =>
    simp only [List.map_cons, joinT, List.length_append, h, tm_text, lenT, List.length_cons]
    omega
theorem sep32 : Sep [32] := sep_blank rfl sep_nil
/-- What is joined by single blanks has the same signs. -/
theorem join_same {S : List UInt8} {ts : List Tk} (hg : ∀ t ∈ ts, V.Good rightK t) : ∃ us, lexA rightK (joinT (ts.map (tm S))) 0 = .ok us ∧ us.map kt = ts.map kt := by
  rw [← glue_one S]
  obtain ⟨us, h1, h2⟩ := lex_glue (R := rightK) (ps := oneP ts) (q := 0) (fun p hp => by
    cases ts with
    | nil => cases hp
    | cons t r =>
      rcases List.mem_cons.1 hp with rfl | hp
      · exact ⟨hg t (by simp), sep_nil⟩
      · obtain ⟨t', ht', rfl⟩ := List.mem_map.1 hp
        exact ⟨hg t' (by simp [ht']), sep32⟩) (fun p hp => by
    cases ts with
    | nil => cases hp
    | cons t r =>
      simp only [oneP, List.tail_cons] at hp
      obtain ⟨t', ht', rfl⟩ := List.mem_map.1 hp
      rfl)
  exact ⟨us, h1, h2.trans (oneP_snd ts)⟩
/-- The law's five blanks. -/
def blanksL : List (List UInt8) := [[32], [10], [9, 13], [32, 37, 32, 120, 32, 40, 32, 34, 10], [32, 32]]
theorem blanks_sep : ∀ b ∈ blanksL, Sep b ∧ headB blankB b = true ∧ b.length ≤ 9 := by
  intro b hb
  simp only [blanksL, List.mem_cons, List.not_mem_nil, or_false] at hb
  rcases hb with rfl | rfl | rfl | rfl | rfl
  · exact ⟨sep32, rfl, by decide⟩
  · exact ⟨sep_blank rfl sep_nil, rfl, by decide⟩
  · exact ⟨sep_blank rfl (sep_blank rfl sep_nil), rfl, by decide⟩
  · exact ⟨sep_blank rfl (sep_comment (s := [32, 120, 32, 40, 32, 34]) rfl), rfl, by decide⟩
  · exact ⟨sep_blank rfl sep32, rfl, by decide⟩
/-- The first signs, each behind one of the blanks. -/
def Fits (ts : List Tk) (k : Nat) (l : List UInt8) : Prop := ∃ ps : List (List UInt8 × Tk), ps.map (fun p => p.2) = ts.take k ∧ (∀ p ∈ ps, p.1 ∈ blanksL) ∧ l = glue ps
theorem fits_zero (ts : List Tk) : Fits ts 0 [] := ⟨[], by simp, by simp, rfl⟩
theorem fits_more {ts : List Tk} {k : Nat} {l b : List UInt8} (h : Fits ts k l) (hk : k < ts.length) (hb : b ∈ blanksL) : Fits ts (k + 1) (l ++ b ++ ts[k].2.1) := by
  obtain ⟨ps, h1, h2, rfl⟩ := h
  refine ⟨ps ++ [(b, ts[k])], ?_, fun p hp => ?_, ?_⟩
  · rw [List.map_append, h1, List.take_succ_eq_append_getElem hk]; rfl
  · rcases List.mem_append.1 hp with hp | hp
    · exact h2 p hp
    · rw [List.mem_singleton.1 hp]; exact hb
  · rw [glue_app]; simp [glue]
theorem fits_same {ts : List Tk} {l : List UInt8} (hg : ∀ t ∈ ts, V.Good rightK t) (h : Fits ts ts.length l) : ∃ us, lexA rightK l 0 = .ok us ∧ us.map kt = ts.map kt := by
  obtain ⟨ps, h1, h2, rfl⟩ := h
  rw [List.take_length] at h1
  obtain ⟨us, h3, h4⟩ := lex_glue (R := rightK) (ps := ps) (q := 0) (fun p hp => ⟨hg p.2 (by rw [← h1]; exact List.mem_map.2 ⟨p, hp, rfl⟩), (blanks_sep _ (h2 p hp)).1⟩) (fun p hp => (blanks_sep _ (h2 p (List.mem_of_mem_tail hp))).2.1)
  refine ⟨us, h3, h4.trans ?_⟩
  rw [← h1, List.map_map]; rfl
/-- The same kinds, the same texts. -/
theorem kt_same {us ts : List Tk} (h : us.map kt = ts.map kt) (S S' : List UInt8) (k : Nat) (hu : k < us.length) (ht : k < ts.length) : (tm S us[k]).1 = (tm S' ts[k]).1 ∧ (tm S us[k]).2.1 = (tm S' ts[k]).2.1 := by
  have h1 : (us.map kt)[k]'(by simpa using hu) = (ts.map kt)[k]'(by simpa using ht) := by simp only [h]
  rw [List.getElem_map, List.getElem_map] at h1
  obtain ⟨e1, e2⟩ := Prod.mk.inj h1
  refine ⟨e1, ?_⟩
  show (⟨us[k].2.1.toArray⟩ : ByteArray) = ⟨ts[k].2.1.toArray⟩
  rw [e2]
theorem kt_len {us ts : List Tk} (h : us.map kt = ts.map kt) : us.length = ts.length := by
  have := congrArg List.length h
  simpa using this
end Go.Proofs.YtaapeleoiclplaaDoor
