/- What the document's own function ParseValue returns. -/
import Derived.Test.YthhfahfgfcicbaaDoorOwnV
namespace Go.Proofs.YthhfahfgfcicbaaDoor
open Go.RowKit
open V

set_option maxHeartbeats 400000 in
theorem quoted_any (s : ByteArray) (w : World) (hs : s.size ≤ 900) :
    Calls Tryd.prog 22 #[.string s] w fun e w' => QuoRes s.data.toList e ∧ w' = w := by
  have hsl : s.data.toList.length = s.size := by rw [Array.length_toList]; rfl
  by_cases h2 : 2 ≤ s.size
  · have hg := get_data s 0 (by omega)
    cases h : ((s[0].toNat : Int) != 34)
    · have h' : (s[0].toNat : Int) = 34 := by simpa using h
      refine quoted_loop s w hs h2 h (hide ?_)
      unfold quotedGo
      rw [if_neg (by omega), if_pos (by rw [hg]; show s[0].toNat = 34; omega)]
    · have HR : Hid (quotedGo s.data.toList = none) := by
        show _ = _
        have h' : ¬ (s[0].toNat : Int) = 34 := by simpa using h
        unfold quotedGo
        rw [if_neg (by omega), if_neg (by rw [hg]; show ¬ s[0].toNat = 34; omega)]
      have t1 : decide ((s.size : Int) < 2) = false := decide_eq_false (by omega)
      go_enter Tryd.func22, Tryd.ntmps22
      go_wp2
      go_ret2
      exact ⟨⟨⟨#[]⟩, false, rfl, fun h => (by cases h), fun _ => unhide HR, by decide⟩, rfl⟩
  · have HR : Hid (quotedGo s.data.toList = none) := by
      show _ = _
      unfold quotedGo
      rw [if_pos (by omega)]
    have t1 : decide ((s.size : Int) < 2) = true := decide_eq_true (by omega)
    go_enter Tryd.func22, Tryd.ntmps22
    go_wp2
    go_ret2
    exact ⟨⟨⟨#[]⟩, false, rfl, fun h => (by cases h), fun _ => unhide HR, by decide⟩, rfl⟩

/-- What the two ways of reading come to: the value v is what l says just if it is right and written as l. -/
theorem parse_num {l : List UInt8} {x : Int} (h : numGo l = some x) : (rightB 1 x [] = true ∧ textL 1 x [] = l → parseL l = some (1, x, [])) ∧ (¬ (rightB 1 x [] = true ∧ textL 1 x [] = l) → parseL l = none) := by
  refine ⟨fun hr => by rw [← hr.2]; exact parseL_text hr.1, fun hr => ?_⟩
  cases hp : parseL l with
  | none => rfl
  | some t =>
    obtain ⟨k, n, r⟩ := t
    obtain ⟨q1, q2⟩ := parseL_back hp
    by_cases k1 : k = 1
    · subst k1
      have hb : r = [] ∧ -4611686018427387904 ≤ n ∧ n ≤ 4611686018427387904 := by simpa [rightB] using q1
      obtain ⟨rfl, n0, n1⟩ := hb
      have e : Lib.itoa n = l := by simpa [textL] using q2
      have := numGo_itoa n n0 n1
      rw [e, h] at this
      injection this with this
      subst this
      exact absurd ⟨q1, q2⟩ hr
    · by_cases k2 : k = 2
      · subst k2
        have e : r = l := by simpa [textL] using q2
        subst e
        have hs : n = 0 ∧ symB r = true := by simpa [rightB] using q1
        cases r with
        | nil => simp [symB] at hs
        | cons c q =>
          have hlo : lowB c.toNat = true := by
            have := hs.2
            simp only [symB, Bool.and_eq_true] at this
            exact this.2.1
          have hlo' : 97 ≤ (c.toNat : Int) ∧ (c.toNat : Int) ≤ 122 := by simpa [lowB] using hlo
          rw [numGo_other (by omega) (digB_f (by omega))] at h
          cases h
      · by_cases k3 : k = 3
        · subst k3
          have e : quoteL r = l := by simpa [textL] using q2
          rw [← e] at h
          simp only [quoteL] at h
          rw [numGo_other (by decide) (by decide)] at h
          cases h
        · simp [rightB, k1, k2, k3] at q1
theorem parse_quo {l t : List UInt8} (hn : numGo l = none) (h : quotedGo l = some t) : (rightB 3 0 t = true ∧ textL 3 0 t = l → parseL l = some (3, 0, t)) ∧ (¬ (rightB 3 0 t = true ∧ textL 3 0 t = l) → parseL l = none) := by
  refine ⟨fun hr => by rw [← hr.2]; exact parseL_text hr.1, fun hr => ?_⟩
  cases hp : parseL l with
  | none => rfl
  | some v =>
    obtain ⟨k, n, r⟩ := v
    obtain ⟨q1, q2⟩ := parseL_back hp
    by_cases k1 : k = 1
    · subst k1
      have hb : r = [] ∧ -4611686018427387904 ≤ n ∧ n ≤ 4611686018427387904 := by simpa [rightB] using q1
      obtain ⟨rfl, n0, n1⟩ := hb
      have e : Lib.itoa n = l := by simpa [textL] using q2
      have := numGo_itoa n n0 n1
      rw [e, hn] at this
      cases this
    · by_cases k2 : k = 2
      · subst k2
        have e : r = l := by simpa [textL] using q2
        subst e
        have hs : n = 0 ∧ symB r = true := by simpa [rightB] using q1
        cases r with
        | nil => simp [symB] at hs
        | cons c q =>
          have hlo : lowB c.toNat = true := by
            have := hs.2
            simp only [symB, Bool.and_eq_true] at this
            exact this.2.1
          have hlo' : 97 ≤ (c.toNat : Int) ∧ (c.toNat : Int) ≤ 122 := by simpa [lowB] using hlo
          rw [quotedGo_other (by omega)] at h
          cases h
      · by_cases k3 : k = 3
        · subst k3
          have e : quoteL r = l := by simpa [textL] using q2
          have hs : n = 0 ∧ strB r = true := by simpa [rightB] using q1
          have := quotedGo_quote r hs.2
          rw [e, h] at this
          injection this with this
          subst this
          obtain ⟨rfl, _⟩ := hs
          exact absurd ⟨q1, q2⟩ hr
        · simp [rightB, k1, k2, k3] at q1
theorem parse_sym {l : List UInt8} (hn : numGo l = none) (h : quotedGo l = none) : (rightB 2 0 l = true ∧ textL 2 0 l = l → parseL l = some (2, 0, l)) ∧ (¬ (rightB 2 0 l = true ∧ textL 2 0 l = l) → parseL l = none) := by
  refine ⟨fun hr => by have := parseL_text hr.1; rw [hr.2] at this; exact this, fun hr => ?_⟩
  cases hp : parseL l with
  | none => rfl
  | some v =>
    obtain ⟨k, n, r⟩ := v
    obtain ⟨q1, q2⟩ := parseL_back hp
    by_cases k1 : k = 1
    · subst k1
      have hb : r = [] ∧ -4611686018427387904 ≤ n ∧ n ≤ 4611686018427387904 := by simpa [rightB] using q1
      obtain ⟨rfl, n0, n1⟩ := hb
      have e : Lib.itoa n = l := by simpa [textL] using q2
      have := numGo_itoa n n0 n1
      rw [e, hn] at this
      cases this
    · by_cases k2 : k = 2
      · subst k2
        have e : r = l := by simpa [textL] using q2
        subst e
        have hs : n = 0 ∧ symB r = true := by simpa [rightB] using q1
        obtain ⟨rfl, _⟩ := hs
        exact absurd ⟨q1, q2⟩ hr
      · by_cases k3 : k = 3
        · subst k3
          have e : quoteL r = l := by simpa [textL] using q2
          have hs : n = 0 ∧ strB r = true := by simpa [rightB] using q1
          have := quotedGo_quote r hs.2
          rw [e, h] at this
          cases this
        · simp [rightB, k1, k2, k3] at q1

/-- What ParseValue may answer. -/
def PVRes (l : List UInt8) (e : Ending) : Prop :=
  match parseL l with
  | some (k, n, r) => e = .returned (.tuple #[.agg #[.int .i64 k, .int .i64 n, .string ⟨r.toArray⟩], .bool true])
  | none => e = .returned (.tuple #[.agg #[.int .i64 0, .int .i64 0, .string ⟨#[]⟩], .bool false])
theorem PVRes.no {l : List UInt8} (h : parseL l = none) : PVRes l (.returned (.tuple #[.agg #[.int .i64 0, .int .i64 0, .string ⟨#[]⟩], .bool false])) := by
  unfold PVRes; rw [h]
theorem PVRes.ok {l : List UInt8} {k n : Int} {r : ByteArray} (h : parseL l = some (k, n, r.data.toList)) : PVRes l (.returned (.tuple #[.agg #[.int .i64 k, .int .i64 n, .string r], .bool true])) := by
  unfold PVRes; rw [h]
theorem kept_two {w w1 : World} {A B : Obj} (hb : Below ((w.alloc A).alloc B).heap.size ((w.alloc A).alloc B) w1) : w1.heap[w.heap.size]? = some A ∧ w1.heap[w.heap.size + 1]? = some B := by
  refine ⟨kept_old hb (heap_alloc_new w A), ?_⟩
  have h := kept_new hb
  have e : (w.alloc A).heap.size = w.heap.size + 1 := by simp
  rw [e] at h; exact h
theorem cells3 {W : World} {b : Nat} {x y z : Value} {T : TypeId} (h : W.heap[b]? = some (.cells #[x, y, z] T)) : W.cell? ⟨b, 0, none⟩ = some x ∧ W.cell? ⟨b, 1, none⟩ = some y ∧ W.cell? ⟨b, 2, none⟩ = some z :=
  ⟨by rw [Lib.cell_of_heap h]; rfl, by rw [Lib.cell_of_heap h]; rfl, by rw [Lib.cell_of_heap h]; rfl⟩
theorem heap_on {W w1 : World} {b : Nat} {o : Obj} (hb : Below W.heap.size W w1) (h : W.heap[b]? = some o) : w1.heap[b]? = some o := by
  have hk : b < W.heap.size := by
    rcases Nat.lt_or_ge b W.heap.size with h' | h'
    · exact h'
    · simp [Array.getElem?_eq_none h'] at h
  rw [hb.block b hk]; exact h

theorem below_two {w w1 : World} {A B : Obj} (h : Below ((w.alloc A).alloc B).heap.size ((w.alloc A).alloc B) w1) : Below w.heap.size w w1 :=
  bt ((Below.refl _ _).alloc (Nat.le_refl _) _) (below_box h)
theorem text_le {k n : Int} {r : List UInt8} (h : rightB k n r = true) : (textL k n r).length ≤ 122 := by
  have hv := parseL_text h
  unfold parseL at hv
  cases hx : valL (textL k n r) with
  | none => rw [hx] at hv; simp at hv
  | some t =>
    unfold valL at hx
    split at hx
    · cases hx
    · split at hx
      · cases hx
      · omega

set_option maxHeartbeats 2000000 in
theorem pv_any (s : ByteArray) (w : World) (hs : s.size ≤ 900) :
    Calls Tryd.prog 10 #[.string s] w fun e w' => PVRes s.data.toList e ∧ Below w.heap.size w w' := by
  have hs1 : s.size ≤ 1000 := by omega
  have he0 : (ByteArray.mk #[]).size ≤ 1000 := by decide
  go_enter Tryd.func10, Tryd.ntmps10
  go_wp2_with (go_at_call 21; refine (number_any _ _ hs1).mono ?_; rintro e w' ⟨⟨x, b, rfl, ht, hf⟩, hw⟩; subst hw; have HT := hide ht; have HF := hide hf; clear ht hf; refine Hid.out ?_)
  cases b
  · have hn := unhide HF rfl
    have HN := hide hn
    clear hn HT HF
    refine Lib.hid ?_
    go_wp2_with (go_at_call 22; refine (quoted_any _ _ hs).mono ?_; rintro e w' ⟨⟨q, b, rfl, ht, hf, hql⟩, hw⟩; subst hw; have HT := hide ht; have HF := hide hf; clear ht hf; refine Hid.out ?_)
    cases b
    · obtain ⟨hyes, hno⟩ := parse_sym (unhide HN) (unhide HF rfl)
      clear HT HF
      cases hr : rightB 2 0 s.data.toList
      · have HP := hide (hno (fun h => by rw [hr] at h; exact absurd h.1 (by decide)))
        clear hyes hno
        refine Lib.hid ?_
        go_wp2_with (go_at_call 13; refine (refValue_any _ _ _ _ hs1).mono ?_; rintro e w1 ⟨rfl, b1⟩; rw [hr]; refine Hid.out ?_)
        obtain ⟨hA, hB⟩ := kept_two b1
        obtain ⟨a0, a1, a2⟩ := cells3 hA
        have z0 := Lib.frozen_of_heap hA 0
        have z1 := Lib.frozen_of_heap hA 1
        have z2 := Lib.frozen_of_heap hA 2
        have hw1 := below_two b1
        clear hr hA hB
        refine Lib.hid ?_
        go_wp2
        refine bodyPost_ret (v := .tuple #[.agg #[.int .i64 0, .int .i64 0, .string ⟨#[]⟩], .bool false]) (by simp [results, Tryd.results10, go_sem, a0, a1, a2]) rfl ⟨PVRes.no (unhide HP), ?_⟩
        exact below_set3 hw1 _ _ _ _ (Nat.le_refl _)
      · obtain ⟨t, htt⟩ : ∃ t : ByteArray, t.data.toList = textL 2 0 s.data.toList := ⟨⟨(textL 2 0 s.data.toList).toArray⟩, by simp⟩
        have HR := hide hr
        have HTT := hide htt
        have htl : t.size ≤ 1000 := by
          have := text_le (unhide HR)
          have h2 : t.data.toList.length = t.size := by rw [Array.length_toList]; rfl
          rw [htt] at h2; omega
        by_cases hts : t.data.toList = s.data.toList
        · have HP := hide (hyes ⟨hr, by rw [← htt, hts]⟩)
          have n1 : (t.toList == s.toList) = true := by rw [ByteArray.toList_eq, ByteArray.toList_eq, hts]; simp
          clear hyes hno htt hts
          refine Lib.hid ?_
          go_wp2_with (go_at_call 13; refine (refValue_any _ _ _ _ hs1).mono ?_; rintro e w1 ⟨rfl, b1⟩; rw [unhide HR]; refine Hid.out ?_)
          obtain ⟨hA, hB⟩ := kept_two b1
          obtain ⟨a0, a1, a2⟩ := cells3 hA
          obtain ⟨c0, c1, c2⟩ := cells3 hB
          have hw1 := below_two b1
          clear hr
          refine Lib.hid ?_
          go_wp2_with (go_at_call 16; refine (refText_any _ _ _ t _ (unhide HR) (unhide HTT) hs1).mono ?_; rintro e w2 ⟨rfl, b2⟩; refine Hid.out ?_)
          obtain ⟨a0, a1, a2⟩ := cells3 (heap_on b2 hA)
          have z0 := Lib.frozen_of_heap (heap_on b2 hA) 0
          have z1 := Lib.frozen_of_heap (heap_on b2 hA) 1
          have z2 := Lib.frozen_of_heap (heap_on b2 hA) 2
          obtain ⟨c0, c1, c2⟩ := cells3 (heap_on b2 hB)
          have hw2 := bt hw1 b2
          refine Lib.hid ?_
          go_wp2
          refine bodyPost_ret (v := .tuple #[.agg #[.int .i64 2, .int .i64 0, .string s], .bool true]) (by simp [results, Tryd.results10, go_sem, a0, a1, a2]) rfl ⟨PVRes.ok (unhide HP), ?_⟩
          exact below_set3 hw2 _ _ _ _ (Nat.le_refl _)
        · have HP := hide (hno (fun h => hts (by rw [htt, h.2])))
          have n1 : (t.toList == s.toList) = false := by rw [ByteArray.toList_eq, ByteArray.toList_eq]; simp only [beq_eq_false_iff_ne, ne_eq]; exact hts
          clear hyes hno htt hts
          refine Lib.hid ?_
          go_wp2_with (go_at_call 13; refine (refValue_any _ _ _ _ hs1).mono ?_; rintro e w1 ⟨rfl, b1⟩; rw [unhide HR]; refine Hid.out ?_)
          obtain ⟨hA, hB⟩ := kept_two b1
          obtain ⟨a0, a1, a2⟩ := cells3 hA
          obtain ⟨c0, c1, c2⟩ := cells3 hB
          have hw1 := below_two b1
          clear hr
          refine Lib.hid ?_
          go_wp2_with (go_at_call 16; refine (refText_any _ _ _ t _ (unhide HR) (unhide HTT) hs1).mono ?_; rintro e w2 ⟨rfl, b2⟩; refine Hid.out ?_)
          obtain ⟨a0, a1, a2⟩ := cells3 (heap_on b2 hA)
          have z0 := Lib.frozen_of_heap (heap_on b2 hA) 0
          have z1 := Lib.frozen_of_heap (heap_on b2 hA) 1
          have z2 := Lib.frozen_of_heap (heap_on b2 hA) 2
          have hw2 := bt hw1 b2
          refine Lib.hid ?_
          go_wp2
          refine bodyPost_ret (v := .tuple #[.agg #[.int .i64 0, .int .i64 0, .string ⟨#[]⟩], .bool false]) (by simp [results, Tryd.results10, go_sem, a0, a1, a2]) rfl ⟨PVRes.no (unhide HP), ?_⟩
          exact below_set3 hw2 _ _ _ _ (Nat.le_refl _)
    · obtain ⟨hyes, hno⟩ := parse_quo (unhide HN) (unhide HT rfl)
      clear HT HF
      cases hr : rightB 3 0 q.data.toList
      · have HP := hide (hno (fun h => by rw [hr] at h; exact absurd h.1 (by decide)))
        clear hyes hno
        refine Lib.hid ?_
        go_wp2_with (go_at_call 13; refine (refValue_any _ _ _ _ hql).mono ?_; rintro e w1 ⟨rfl, b1⟩; rw [hr]; refine Hid.out ?_)
        obtain ⟨hA, hB⟩ := kept_two b1
        obtain ⟨a0, a1, a2⟩ := cells3 hA
        have z0 := Lib.frozen_of_heap hA 0
        have z1 := Lib.frozen_of_heap hA 1
        have z2 := Lib.frozen_of_heap hA 2
        have hw1 := below_two b1
        clear hr hA hB
        refine Lib.hid ?_
        go_wp2
        refine bodyPost_ret (v := .tuple #[.agg #[.int .i64 0, .int .i64 0, .string ⟨#[]⟩], .bool false]) (by simp [results, Tryd.results10, go_sem, a0, a1, a2]) rfl ⟨PVRes.no (unhide HP), ?_⟩
        exact below_set3 hw1 _ _ _ _ (Nat.le_refl _)
      · obtain ⟨t, htt⟩ : ∃ t : ByteArray, t.data.toList = textL 3 0 q.data.toList := ⟨⟨(textL 3 0 q.data.toList).toArray⟩, by simp⟩
        have HR := hide hr
        have HTT := hide htt
        have htl : t.size ≤ 1000 := by
          have := text_le (unhide HR)
          have h2 : t.data.toList.length = t.size := by rw [Array.length_toList]; rfl
          rw [htt] at h2; omega
        by_cases hts : t.data.toList = s.data.toList
        · have HP := hide (hyes ⟨hr, by rw [← htt, hts]⟩)
          have n1 : (t.toList == s.toList) = true := by rw [ByteArray.toList_eq, ByteArray.toList_eq, hts]; simp
          clear hyes hno htt hts
          refine Lib.hid ?_
          go_wp2_with (go_at_call 13; refine (refValue_any _ _ _ _ hql).mono ?_; rintro e w1 ⟨rfl, b1⟩; rw [unhide HR]; refine Hid.out ?_)
          obtain ⟨hA, hB⟩ := kept_two b1
          obtain ⟨a0, a1, a2⟩ := cells3 hA
          obtain ⟨c0, c1, c2⟩ := cells3 hB
          have hw1 := below_two b1
          clear hr
          refine Lib.hid ?_
          go_wp2_with (go_at_call 16; refine (refText_any _ _ _ t _ (unhide HR) (unhide HTT) hql).mono ?_; rintro e w2 ⟨rfl, b2⟩; refine Hid.out ?_)
          obtain ⟨a0, a1, a2⟩ := cells3 (heap_on b2 hA)
          have z0 := Lib.frozen_of_heap (heap_on b2 hA) 0
          have z1 := Lib.frozen_of_heap (heap_on b2 hA) 1
          have z2 := Lib.frozen_of_heap (heap_on b2 hA) 2
          obtain ⟨c0, c1, c2⟩ := cells3 (heap_on b2 hB)
          have hw2 := bt hw1 b2
          refine Lib.hid ?_
          go_wp2
          refine bodyPost_ret (v := .tuple #[.agg #[.int .i64 3, .int .i64 0, .string q], .bool true]) (by simp [results, Tryd.results10, go_sem, a0, a1, a2]) rfl ⟨PVRes.ok (unhide HP), ?_⟩
          exact below_set3 hw2 _ _ _ _ (Nat.le_refl _)
        · have HP := hide (hno (fun h => hts (by rw [htt, h.2])))
          have n1 : (t.toList == s.toList) = false := by rw [ByteArray.toList_eq, ByteArray.toList_eq]; simp only [beq_eq_false_iff_ne, ne_eq]; exact hts
          clear hyes hno htt hts
          refine Lib.hid ?_
          go_wp2_with (go_at_call 13; refine (refValue_any _ _ _ _ hql).mono ?_; rintro e w1 ⟨rfl, b1⟩; rw [unhide HR]; refine Hid.out ?_)
          obtain ⟨hA, hB⟩ := kept_two b1
          obtain ⟨a0, a1, a2⟩ := cells3 hA
          obtain ⟨c0, c1, c2⟩ := cells3 hB
          have hw1 := below_two b1
          clear hr
          refine Lib.hid ?_
          go_wp2_with (go_at_call 16; refine (refText_any _ _ _ t _ (unhide HR) (unhide HTT) hql).mono ?_; rintro e w2 ⟨rfl, b2⟩; refine Hid.out ?_)
          obtain ⟨a0, a1, a2⟩ := cells3 (heap_on b2 hA)
          have z0 := Lib.frozen_of_heap (heap_on b2 hA) 0
          have z1 := Lib.frozen_of_heap (heap_on b2 hA) 1
          have z2 := Lib.frozen_of_heap (heap_on b2 hA) 2
          have hw2 := bt hw1 b2
          refine Lib.hid ?_
          go_wp2
          refine bodyPost_ret (v := .tuple #[.agg #[.int .i64 0, .int .i64 0, .string ⟨#[]⟩], .bool false]) (by simp [results, Tryd.results10, go_sem, a0, a1, a2]) rfl ⟨PVRes.no (unhide HP), ?_⟩
          exact below_set3 hw2 _ _ _ _ (Nat.le_refl _)
  · obtain ⟨hyes, hno⟩ := parse_num (unhide HT rfl)
    clear HT HF
    rw [show ([] : List UInt8) = (ByteArray.mk #[]).data.toList from rfl] at hyes hno
    cases hr : rightB 1 x (ByteArray.mk #[]).data.toList
    · have HP := hide (hno (fun h => by rw [hr] at h; exact absurd h.1 (by decide)))
      clear hyes hno
      refine Lib.hid ?_
      go_wp2_with (go_at_call 13; refine (refValue_any _ _ _ _ he0).mono ?_; rintro e w1 ⟨rfl, b1⟩; rw [hr]; refine Hid.out ?_)
      obtain ⟨hA, hB⟩ := kept_two b1
      obtain ⟨a0, a1, a2⟩ := cells3 hA
      have z0 := Lib.frozen_of_heap hA 0
      have z1 := Lib.frozen_of_heap hA 1
      have z2 := Lib.frozen_of_heap hA 2
      have hw1 := below_two b1
      clear hr hA hB
      refine Lib.hid ?_
      go_wp2
      refine bodyPost_ret (v := .tuple #[.agg #[.int .i64 0, .int .i64 0, .string ⟨#[]⟩], .bool false]) (by simp [results, Tryd.results10, go_sem, a0, a1, a2]) rfl ⟨PVRes.no (unhide HP), ?_⟩
      exact below_set3 hw1 _ _ _ _ (Nat.le_refl _)
    · obtain ⟨t, htt⟩ : ∃ t : ByteArray, t.data.toList = textL 1 x (ByteArray.mk #[]).data.toList := ⟨⟨(textL 1 x (ByteArray.mk #[]).data.toList).toArray⟩, by simp⟩
      have HR := hide hr
      have HTT := hide htt
      have htl : t.size ≤ 1000 := by
        have := text_le (unhide HR)
        have h2 : t.data.toList.length = t.size := by rw [Array.length_toList]; rfl
        rw [htt] at h2; omega
      by_cases hts : t.data.toList = s.data.toList
      · have HP := hide (hyes ⟨hr, by rw [← htt, hts]⟩)
        have n1 : (t.toList == s.toList) = true := by rw [ByteArray.toList_eq, ByteArray.toList_eq, hts]; simp
        clear hyes hno htt hts
        refine Lib.hid ?_
        go_wp2_with (go_at_call 13; refine (refValue_any _ _ _ _ he0).mono ?_; rintro e w1 ⟨rfl, b1⟩; rw [unhide HR]; refine Hid.out ?_)
        obtain ⟨hA, hB⟩ := kept_two b1
        obtain ⟨a0, a1, a2⟩ := cells3 hA
        obtain ⟨c0, c1, c2⟩ := cells3 hB
        have hw1 := below_two b1
        clear hr
        refine Lib.hid ?_
        go_wp2_with (go_at_call 16; refine (refText_any _ _ _ t _ (unhide HR) (unhide HTT) he0).mono ?_; rintro e w2 ⟨rfl, b2⟩; refine Hid.out ?_)
        obtain ⟨a0, a1, a2⟩ := cells3 (heap_on b2 hA)
        have z0 := Lib.frozen_of_heap (heap_on b2 hA) 0
        have z1 := Lib.frozen_of_heap (heap_on b2 hA) 1
        have z2 := Lib.frozen_of_heap (heap_on b2 hA) 2
        obtain ⟨c0, c1, c2⟩ := cells3 (heap_on b2 hB)
        have hw2 := bt hw1 b2
        refine Lib.hid ?_
        go_wp2
        refine bodyPost_ret (v := .tuple #[.agg #[.int .i64 1, .int .i64 x, .string (ByteArray.mk #[])], .bool true]) (by simp [results, Tryd.results10, go_sem, a0, a1, a2]) rfl ⟨PVRes.ok (unhide HP), ?_⟩
        exact below_set3 hw2 _ _ _ _ (Nat.le_refl _)
      · have HP := hide (hno (fun h => hts (by rw [htt, h.2])))
        have n1 : (t.toList == s.toList) = false := by rw [ByteArray.toList_eq, ByteArray.toList_eq]; simp only [beq_eq_false_iff_ne, ne_eq]; exact hts
        clear hyes hno htt hts
        refine Lib.hid ?_
        go_wp2_with (go_at_call 13; refine (refValue_any _ _ _ _ he0).mono ?_; rintro e w1 ⟨rfl, b1⟩; rw [unhide HR]; refine Hid.out ?_)
        obtain ⟨hA, hB⟩ := kept_two b1
        obtain ⟨a0, a1, a2⟩ := cells3 hA
        obtain ⟨c0, c1, c2⟩ := cells3 hB
        have hw1 := below_two b1
        clear hr
        refine Lib.hid ?_
        go_wp2_with (go_at_call 16; refine (refText_any _ _ _ t _ (unhide HR) (unhide HTT) he0).mono ?_; rintro e w2 ⟨rfl, b2⟩; refine Hid.out ?_)
        obtain ⟨a0, a1, a2⟩ := cells3 (heap_on b2 hA)
        have z0 := Lib.frozen_of_heap (heap_on b2 hA) 0
        have z1 := Lib.frozen_of_heap (heap_on b2 hA) 1
        have z2 := Lib.frozen_of_heap (heap_on b2 hA) 2
        have hw2 := bt hw1 b2
        refine Lib.hid ?_
        go_wp2
        refine bodyPost_ret (v := .tuple #[.agg #[.int .i64 0, .int .i64 0, .string ⟨#[]⟩], .bool false]) (by simp [results, Tryd.results10, go_sem, a0, a1, a2]) rfl ⟨PVRes.no (unhide HP), ?_⟩
        exact below_set3 hw2 _ _ _ _ (Nat.le_refl _)
end Go.Proofs.YthhfahfgfcicbaaDoor
