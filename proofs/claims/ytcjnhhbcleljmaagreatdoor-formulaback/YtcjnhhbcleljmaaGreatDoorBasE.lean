/- Joined: ExpC ExpD ExpE ExpF ExpG GuA ExpH ExpJ GuB ExpK AtmA MatF GuC ExpS ExpI MatK GuF GuK. -/
import Derived.Test.YtcjnhhbcleljmaaGreatDoorBasD
import Derived.Test.YtcjnhhbcleljmaaGreatDoorBasB
import Derived.Laws.AppendOwnNone
import Derived.Deep.DeepAppendWide
import Derived.Deep.RegionHeld3
import Derived.Test.YtcjnhhbcleljmaaGreatDoorBasC
namespace Go.Proofs.YtcjnhhbcleljmaaGreatDoor.Sb
open Go.RowKit
open V
open Ex (RowO LiesO flatO)

theorem run_next {l : List Oo} {k d : Nat} (hk : k < l.length) (h : runD 0 (l.take k) = some d) : runD 0 (l.take (k + 1)) = stepD d l[k] := by
  rw [List.take_succ_eq_append_getElem hk, run_app, h]
  simp only [Option.bind_some, runD]
  cases stepD d l[k] <;> rfl
theorem run_none {l : List Oo} {k : Nat} (h : runD 0 (l.take k) = none) : runD 0 l = none := by
  have := run_app (l.take k) (l.drop k) 0
  rw [List.take_append_drop, h] at this
  exact this
/-- Right so far, and how many there are. -/
def Upto (l : List Oo) (k d : Nat) : Prop := (∀ o ∈ l.take k, rightO o = true) ∧ runD 0 (l.take k) = some d
theorem upto_zero (l : List Oo) : Upto l 0 0 := ⟨by simp, by simp [runD]⟩
theorem upto_all {l : List Oo} {k d : Nat} (hk : k < l.length) (h : Upto l k d) (hr : rightO l[k] = true) : ∀ o ∈ l.take (k + 1), rightO o = true := by
  intro o ho
  rw [List.take_succ_eq_append_getElem hk] at ho
  rcases List.mem_append.1 ho with ho | ho
  · exact h.1 o ho
  · rw [List.mem_singleton.1 ho]; exact hr
theorem upto_push {l : List Oo} {k d : Nat} (hk : k < l.length) (h : Upto l k d) (hr : rightO l[k] = true) (hp : pushO l[k] = true) : Upto l (k + 1) (d + 1) :=
  ⟨upto_all hk h hr, by rw [run_next hk h.2, stepD, if_pos hp]⟩
theorem upto_take {l : List Oo} {k d : Nat} (hk : k < l.length) (h : Upto l k d) (hr : rightO l[k] = true) (hp : pushO l[k] = false) (hd : 2 ≤ d) : Upto l (k + 1) (d - 1) :=
  ⟨upto_all hk h hr, by rw [run_next hk h.2, stepD, if_neg (by simp [hp]), if_pos hd]⟩
theorem upto_few {l : List Oo} {k d : Nat} (hk : k < l.length) (h : Upto l k d) (hp : pushO l[k] = false) (hd : d < 2) : exprB l = false := by
  rw [Bool.eq_false_iff]
  intro he
  have := run_none (l := l) (k := k + 1) (by rw [run_next hk h.2, stepD, if_neg (by simp [hp]), if_neg (by omega)])
  rw [(expr_iff.1 he).2.2] at this
  cases this
theorem expr_wrong {l : List Oo} {k : Nat} (hk : k < l.length) (h : rightO l[k] = false) : exprB l = false := by
  rw [Bool.eq_false_iff]
  intro he
  have := (expr_iff.1 he).2.1 l[k] (List.getElem_mem hk)
  rw [h] at this
  cases this
theorem expr_long {l : List Oo} (h : 15 < l.length) : exprB l = false := by
  rw [Bool.eq_false_iff]
  intro he
  have := (expr_iff.1 he).1.2
  omega
theorem upto_end {l : List Oo} {k d : Nat} (hk : l.length ≤ k) (h15 : l.length ≤ 15) (h : Upto l k d) : exprB l = decide (d = 1) := by
  obtain ⟨h1, h2⟩ := h
  rw [List.take_of_length_le hk] at h1 h2
  by_cases hd : d = 1
  · subst hd
    rw [decide_eq_true rfl]
    refine expr_iff.2 ⟨⟨?_, h15⟩, h1, h2⟩
    rcases Nat.eq_zero_or_pos l.length with h0 | h0
    · rw [List.eq_nil_of_length_eq_zero h0] at h2; cases h2
    · exact h0
  · rw [decide_eq_false hd, Bool.eq_false_iff]
    intro he
    have := (expr_iff.1 he).2.2
    rw [h2] at this
    cases this
    exact hd rfl
theorem upto_le {l : List Oo} : ∀ {k d : Nat}, Upto l k d → d ≤ k
  | 0, d, h => by have := h.2; simp [runD] at this; omega
  | k + 1, d, h => by
    by_cases hk : k < l.length
    · have h2 := h.2
      have e : runD 0 (l.take (k + 1)) = (runD 0 (l.take k)).bind (fun m => stepD m l[k]) := by
        rw [List.take_succ_eq_append_getElem hk, run_app]
        cases runD 0 (l.take k) with
        | none => rfl
        | some m => simp only [Option.bind_some, runD]; cases stepD m l[k] <;> rfl
      rw [e] at h2
      cases hr : runD 0 (l.take k) with
      | none => rw [hr] at h2; cases h2
      | some m =>
        rw [hr, Option.bind_some] at h2
        have := upto_le (k := k) (d := m) (l := l) ⟨fun o ho => h.1 o (by rw [List.take_succ_eq_append_getElem hk]; exact List.mem_append_left _ ho), hr⟩
        unfold stepD at h2
        split at h2
        · cases h2; omega
        · split at h2
          · cases h2; omega
          · cases h2
    · have e : l.take (k + 1) = l.take k := by rw [List.take_of_length_le (by omega), List.take_of_length_le (by omega)]
      have := upto_le (k := k) (d := d) (l := l) ⟨by rw [← e]; exact h.1, by rw [← e]; exact h.2⟩
      omega

set_option maxHeartbeats 2000000 in
theorem echeck_any (a : Option Addr) (len cap : Nat) (xs : List Oo) (w : World) (hrow : RowO w a xs) (hl : len ≤ xs.length) (hl' : xs.length ≤ len) (hL : ∀ x ∈ xs, LtO x) (h1k : len ≤ 20000) :
    Calls Tryz.prog 174 #[.slice a len cap] w fun e w' => e = .returned (.int .i64 (chk (exprB xs))) ∧ Below w.heap.size w w' := by
  by_cases h15 : 15 < len
  · rw [chk_f (expr_long (l := xs) (by omega))]
    have d5 : decide (15 < (len : Int)) = true := by simp; omega
    go_enter Tryz.func174, Tryz.ntmps174
    go_wp2_with fail
    go_ret
    exact ⟨rfl, Below.refl _ _⟩
  · have d5 : decide (15 < (len : Int)) = false := by simp; omega
    have HL := hide hL
    clear hL
    go_enter Tryz.func174, Tryz.ntmps174
    go_wp2_with fail
    go_loopw [3, 5, 11] (fun d _ i wr => ∃ k m : Nat, k ≤ len ∧ i = .int .i64 k ∧ d = .int .i64 m ∧ Hid (Upto xs k m) ∧ Below w.heap.size w wr) (fun _ _ i _ => len - (intOf i).toNat)
    case atStart => exact ⟨0, 0, Nat.zero_le _, rfl, rfl, hide (upto_zero xs), Below.refl _ _⟩
    case round =>
      obtain ⟨k, m, hk, rfl, rfl, HU, hbw⟩ := hrel
      have hmk := upto_le (unhide HU)
      by_cases hlt : k < len
      · obtain ⟨b, o, ha, hbl, c0, c1, c2, c3, c4⟩ := (hrow.on hbw).up (show k < xs.length by omega)
        subst ha
        have hsz := unhide HL xs[k] (List.getElem_mem (by omega))
        have hbx : Below w.heap.size w (wr.alloc (bxO xs[k])) := hbw.alloc hbw.size _
        have hq := quintO (heap_alloc_new wr (bxO xs[k]))
        cases hr : rightO xs[k] with
        | false =>
          have HF := hide (chk_f (expr_wrong (show k < xs.length by omega) hr))
          have HR := hide hr
          clear hr hq
          generalize xs[k] = t at c0 c1 c2 c3 c4 hsz hbx HR
          go_wp2_with fail
          refine (isRightO_q t false _ hsz HR).mono ?_
          rintro e w2 ⟨rfl, hb2⟩
          go_wp2_with fail
          go_ret
          exact ⟨ret_int (unhide HF).symm, bt hbx hb2⟩
        | true =>
          have HR := hide hr
          cases hp : pushO xs[k] with
          | true =>
            have HN := hide (upto_push (show k < xs.length by omega) (unhide HU) hr hp)
            have HP := hide hp
            clear hr hp
            generalize xs[k] = t at c0 c1 c2 c3 c4 hsz hbx HR HP hq
            obtain ⟨q0, q1, q2, q3, q4⟩ := hq
            go_wp2_with fail
            refine (isRightO_q t true _ hsz HR).mono ?_
            rintro e w2 ⟨rfl, hb2⟩
            have p0 := cell_on hb2 q0
            have p1 := cell_on hb2 q1
            have p2 := cell_on hb2 q2
            have p3 := cell_on hb2 q3
            have p4 := cell_on hb2 q4
            have hb3 := bt hbx hb2
            clear c0 c1 c2 c3 c4 q0 q1 q2 q3 q4 hbx hb2
            go_wp2_with fail
            refine (pushes_q t true _ HP).mono ?_
            rintro e w4 ⟨rfl, hb4⟩
            clear p0 p1 p2 p3 p4
            go_wp2_with fail
            go_roundw
            case rel => exact ⟨k + 1, m + 1, by omega, by go_num, by go_num, HN, bt hb3 hb4⟩
            case measure => simp [intOf]; omega
          | false =>
            have HP := hide hp
            by_cases hd : 2 ≤ m
            · have HN := hide (upto_take (show k < xs.length by omega) (unhide HU) hr hp hd)
              have dd : decide ((m : Int) < 2) = false := decide_eq_false (by omega)
              clear hr hp
              generalize xs[k] = t at c0 c1 c2 c3 c4 hsz hbx HR HP hq
              obtain ⟨q0, q1, q2, q3, q4⟩ := hq
              go_wp2_with fail
              refine (isRightO_q t true _ hsz HR).mono ?_
              rintro e w2 ⟨rfl, hb2⟩
              have p0 := cell_on hb2 q0
              have p1 := cell_on hb2 q1
              have p2 := cell_on hb2 q2
              have p3 := cell_on hb2 q3
              have p4 := cell_on hb2 q4
              have hb3 := bt hbx hb2
              clear c0 c1 c2 c3 c4 q0 q1 q2 q3 q4 hbx hb2
              go_wp2_with fail
              refine (pushes_q t false _ HP).mono ?_
              rintro e w4 ⟨rfl, hb4⟩
              clear p0 p1 p2 p3 p4
              go_wp2_with fail
              go_roundw
              case rel => exact ⟨k + 1, m - 1, by omega, by go_num, by rw [show ((m - 1 : Nat) : Int) = (m : Int) - 1 by omega], HN, bt hb3 hb4⟩
              case measure => simp [intOf]; omega
            · have HF := hide (chk_f (upto_few (show k < xs.length by omega) (unhide HU) hp (by omega)))
              have dd : decide ((m : Int) < 2) = true := decide_eq_true (by omega)
              clear hr hp
              generalize xs[k] = t at c0 c1 c2 c3 c4 hsz hbx HR HP hq
              obtain ⟨q0, q1, q2, q3, q4⟩ := hq
              go_wp2_with fail
              refine (isRightO_q t true _ hsz HR).mono ?_
              rintro e w2 ⟨rfl, hb2⟩
              have p0 := cell_on hb2 q0
              have p1 := cell_on hb2 q1
              have p2 := cell_on hb2 q2
              have p3 := cell_on hb2 q3
              have p4 := cell_on hb2 q4
              have hb3 := bt hbx hb2
              clear c0 c1 c2 c3 c4 q0 q1 q2 q3 q4 hbx hb2
              go_wp2_with fail
              refine (pushes_q t false _ HP).mono ?_
              rintro e w4 ⟨rfl, hb4⟩
              clear p0 p1 p2 p3 p4
              go_wp2_with fail
              go_ret
              exact ⟨ret_int (unhide HF).symm, bt hb3 hb4⟩
      · by_cases hd : m = 1
        · have HF := hide (chk_t ((upto_end (l := xs) (by omega) (by omega) (unhide HU)).trans (decide_eq_true hd)))
          subst hd
          go_wp2_with fail
          go_ret
          exact ⟨ret_int (unhide HF).symm, hbw⟩
        · have HF := hide (chk_f ((upto_end (l := xs) (by omega) (by omega) (unhide HU)).trans (decide_eq_false hd)))
          have dd : ((m : Int) != 1) = true := by simp; omega
          clear hd
          go_wp2_with fail
          go_ret
          exact ⟨ret_int (unhide HF).symm, hbw⟩
end Go.Proofs.YtcjnhhbcleljmaaGreatDoor.Sb
namespace Go.Proofs.YtcjnhhbcleljmaaGreatDoor.Sb
open Go.RowKit
open V
open N (doL)

/-- What two come to, or why not. -/
def reckR (k : Int) (x y : Vv) : Vv × Int :=
  if x.1 = 1 ∧ y.1 = 1 then (if (doL k x.2.1 y.2.1).2 = 0 then ((1, (doL k x.2.1 y.2.1).1, ⟨#[]⟩), 0) else (zeroV, (doL k x.2.1 y.2.1).2)) else (zeroV, 3)

abbrev bxV (v : Vv) : Obj := .cells #[.int .i64 v.1, .int .i64 v.2.1, .string v.2.2] 139

theorem below3 (w : World) (a b c : Obj) : Below w.heap.size w (((w.alloc a).alloc b).alloc c) := by
  have h1 := (Below.refl w.heap.size w).alloc (Nat.le_refl _) a
  have h2 := h1.alloc h1.size b
  exact h2.alloc h2.size c

end Go.Proofs.YtcjnhhbcleljmaaGreatDoor.Sb
namespace Go.Proofs.YtcjnhhbcleljmaaGreatDoor.Sb
open Go.RowKit
open V
open N (doL)

def flatV : List Vv → List Value
  | [] => []
  | x :: r => .int .i64 x.1 :: .int .i64 x.2.1 :: .string x.2.2 :: flatV r
theorem flatV_app (xs ys : List Vv) : flatV (xs ++ ys) = flatV xs ++ flatV ys := by
  induction xs with
  | nil => rfl
  | cons x r ih => simp [flatV, ih]
theorem flatV_len (xs : List Vv) : (flatV xs).length = xs.length * 3 := by
  induction xs with
  | nil => rfl
  | cons x r ih => simp [flatV, ih]; omega
theorem infoV : (Tryz.prog.info? 139).map (fun i => (i.zero, i.size, i.bytes)) = some (some (.agg #[.int .i64 0, .int .i64 0, .string ⟨#[]⟩]), 3, 32) := by kernel_rfl

theorem flatV_oneCell (xs : List Vv) : ∀ u ∈ flatV xs, u.oneCell' = true := by
  induction xs with
  | nil => intro u h; simp [flatV] at h
  | cons x r ih =>
    intro u h
    simp only [flatV, List.mem_cons] at h
    rcases h with rfl | rfl | rfl | h
    · rfl
    · rfl
    · rfl
    · exact ih u h
/-- The cells of one value in a block of its own. -/
theorem cells_v {W : World} {b : Nat} {v : Vv} (h : W.heap[b]? = some (bxV v)) : ∀ (j : Nat) (u : Value), (flatV [v])[j]? = some u → W.cell? ((⟨b, 0, none⟩ : Addr).add j) = some u := by
  intro j u hu
  rw [WideShapes.add_plain, Lib.cell_of_heap h]
  match j, hu with
  | 0, hu => simpa [flatV] using hu
  | 1, hu => simpa [flatV] using hu
  | 2, hu => simpa [flatV] using hu
  | j + 3, hu => simp [flatV] at hu
theorem box_two (w : World) (A : Obj) (v : Vv) : ((w.alloc A).alloc (bxV v)).heap[w.heap.size + 1]? = some (bxV v) := by
  have := heap_alloc_new (w.alloc A) (bxV v)
  rwa [show (w.alloc A).heap.size = w.heap.size + 1 by simp] at this

end Go.Proofs.YtcjnhhbcleljmaaGreatDoor.Sb
namespace Go.Proofs.YtcjnhhbcleljmaaGreatDoor.Sb
open Go.RowKit
open V
open N (doL)

theorem own_cut {w : World} {B : Nat} {e : TypeId} {s g n p cap : Nat} {xs : List Value} (h : w.ownsRow B e s (.slice (some ⟨g, 0, none⟩) n cap) n xs) (hp : p ≤ n) : w.ownsRow B e s (.slice (some ⟨g, 0, none⟩) p cap) p (xs.take (p * s)) := by
  have hps : p * s ≤ n * s := Nat.mul_le_mul_right s hp
  refine ⟨by rw [List.length_take, h.1]; omega, ?_⟩
  rcases h.2 with ⟨hv, h0⟩ | ⟨g', cap', cur, hv, hB, hg, hc1, hc2, hc3, ht⟩
  · simp at hv
  · simp only [Value.slice.injEq, Option.some.injEq, Addr.mk.injEq, and_true, true_and] at hv
    obtain ⟨rfl, rfl⟩ := hv
    refine Or.inr ⟨g, cap, cur, rfl, hB, hg, by omega, hc2, hc3, ?_⟩
    rw [← ht, List.take_take, Nat.min_eq_left hps]
theorem flatV_take (xs ys : List Vv) (p : Nat) (hp : p = xs.length) : (flatV (xs ++ ys)).take (p * 3) = flatV xs := by
  rw [flatV_app, List.take_left' (by rw [flatV_len, hp])]
theorem flatV_get (xs : List Vv) : ∀ (i : Nat) (x : Vv), xs[i]? = some x → (flatV xs)[i * 3]? = some (.int .i64 x.1) ∧ (flatV xs)[i * 3 + 1]? = some (.int .i64 x.2.1) ∧ (flatV xs)[i * 3 + 2]? = some (.string x.2.2) := by
  induction xs with
  | nil => intro i x h; simp at h
  | cons y r ih =>
    intro i x h
    match i with
    | 0 => simp at h; subst h; simp [flatV]
    | i + 1 =>
      have := ih i x (by simpa using h)
      rw [show (i + 1) * 3 = i * 3 + 1 + 1 + 1 by omega]
      simpa [flatV] using this
/-- A value of a row that the call owns. -/
theorem own_at {w : World} {B n cs : Nat} {s : Option Addr} {st : List Vv} (h : w.ownsRow B 139 3 (.slice s n cs) n (flatV st)) {i : Nat} {x : Vv} (hx : st[i]? = some x) : ∃ g, s = some ⟨g, 0, none⟩ ∧ B ≤ g ∧ g < w.heap.size ∧ n = st.length ∧ n ≤ cs ∧ w.cell? ⟨g, i * 3, none⟩ = some (.int .i64 x.1) ∧ w.cell? ⟨g, i * 3 + 1, none⟩ = some (.int .i64 x.2.1) ∧ w.cell? ⟨g, i * 3 + 2, none⟩ = some (.string x.2.2) := by
  have hn : n = st.length := by have := h.1; rw [flatV_len] at this; omega
  have hi : i < n := by rw [hn]; exact (List.getElem?_eq_some_iff.1 hx).1
  rcases h.2 with ⟨hv, h0⟩ | ⟨g, cap, cur, hv, hB, hg, hc, _, _, ht⟩
  · omega
  · simp only [Value.slice.injEq] at hv
    obtain ⟨rfl, _, rfl⟩ := hv
    obtain ⟨h0, h1, h2⟩ := flatV_get st i x hx
    rw [← ht] at h0 h1 h2
    rw [List.getElem?_take_of_lt (by omega), Array.getElem?_toList] at h0 h1 h2
    refine ⟨g, rfl, hB, (Array.getElem?_eq_some_iff.1 hg).1, hn, hc, ?_⟩
    rw [Lib.cell_of_heap hg, Lib.cell_of_heap hg, Lib.cell_of_heap hg]
    exact ⟨h0, h1, h2⟩

/-- append at a step of a region that draws its order. -/
theorem step_append_wide {P : Program} {w : World} {ops : Array Oper} {o : Oper} {a : Act} {K : Act → World → Prop} {Q : Exit → Act → World → Prop} {E : Prop} (hgd : o.guard = none) (s x : Operand) (t : TypeId)
    (ho : o.op = .call { callee := .builtin .append, args := #[s, x], argTypes := #[t, t] })
    (base : Nat) (e : TypeId) (i : TypeInfo) (z : Value) (size bytes : Nat) (ht : P.underlying t = some (.slice e)) (hi : P.info? e = some i) (hz : i.zero = some z)
    (hsize : i.size = size) (hby : i.bytes = bytes) (hzs : z.cells.size = size) (hsz : 0 < size)
    (v : Value) (n : Nat) (xs : List Value) (hs : a.eval s = v) (hown : w.ownsRow base e size v n xs)
    (ad : Addr) (m c : Nat) (news : List Value) (hx : a.eval x = .slice (some ad) m c) (hl : news.length = m * size) (hnews : ∀ j u, news[j]? = some u → w.cell? (ad.add j) = some u) (h1 : ∀ u ∈ news, u.oneCell' = true)
    (h63 : n + m ≤ maxLen) (hbytes : ((n + m) + (n + m) / 4 + 192) * bytes ≤ 281474976710656) (hbase : base ≤ w.heap.size)
    (h : ∀ v' w', w'.ownsRow base e size v' (n + m) (xs ++ news) → w.grownBy w' v.ownBlock → (v' = .slice none 0 0 ↔ v = .slice none 0 0 ∧ m = 0) → K (a.put o.dst v') w') :
    if Region.wanted o (yielded ops a.tmps) = true then Oper.wp P o a w K Q else E := by
  have hw : Region.wanted o (yielded ops a.tmps) = true := by simp [Region.wanted, hgd]
  rw [if_pos hw]
  exact wp_append_own_wide w s x t ho base e i z size bytes ht hi hz hsize hby hzs hsz v n xs hs hown ad m c news hx hl hnews h1 h63 hbytes hbase h

theorem grown_cell {w w' : World} {r b o : Nat} {v : Value} (hg : w.grownBy w' (some r)) (hne : b ≠ r) (h : w.cell? ⟨b, o, none⟩ = some v) : w'.cell? ⟨b, o, none⟩ = some v := by
  have := hg.block b (cell_lt h) (by simpa using hne)
  simpa [World.cell?, this] using h
theorem three_sets {W : World} {b : Nat} {x y z x' y' z' : Value} (h0 : W.cell? ⟨b, 0, none⟩ = some x') (h1 : W.cell? ⟨b, 1, none⟩ = some y') (h2 : W.cell? ⟨b, 2, none⟩ = some z') :
    (((W.setCell ⟨b, 0, none⟩ x).setCell ⟨b, 1, none⟩ y).setCell ⟨b, 2, none⟩ z).cell? ⟨b, 0, none⟩ = some x ∧ (((W.setCell ⟨b, 0, none⟩ x).setCell ⟨b, 1, none⟩ y).setCell ⟨b, 2, none⟩ z).cell? ⟨b, 1, none⟩ = some y ∧ (((W.setCell ⟨b, 0, none⟩ x).setCell ⟨b, 1, none⟩ y).setCell ⟨b, 2, none⟩ z).cell? ⟨b, 2, none⟩ = some z := by
  have g1 : (W.setCell ⟨b, 0, none⟩ x).cell? ⟨b, 1, none⟩ = some y' := by rw [World.cell?_setCell_other _ _ _ _ (by simp)]; exact h1
  have g2 : ((W.setCell ⟨b, 0, none⟩ x).setCell ⟨b, 1, none⟩ y).cell? ⟨b, 2, none⟩ = some z' := by rw [World.cell?_setCell_other _ _ _ _ (by simp), World.cell?_setCell_other _ _ _ _ (by simp)]; exact h2
  refine ⟨?_, ?_, ?_⟩
  · rw [World.cell?_setCell_other _ _ _ _ (by simp), World.cell?_setCell_other _ _ _ _ (by simp), World.cell?_setCell_same _ _ _ h0]
  · rw [World.cell?_setCell_other _ _ _ _ (by simp), World.cell?_setCell_same _ _ _ g1]
  · rw [World.cell?_setCell_same _ _ _ g2]

end Go.Proofs.YtcjnhhbcleljmaaGreatDoor.Sb
namespace Go.Proofs.YtcjnhhbcleljmaaGreatDoor.Sb
open Go.RowKit
open V
open Ex (RowO LiesO flatO)
open N (doL)

theorem snoc_two {st : List Vv} (h : 2 ≤ st.length) : ∃ pre x y, st = pre ++ [x, y] := by
  have hl : 2 ≤ st.reverse.length := by simpa using h
  have hr := List.reverse_reverse st
  generalize st.reverse = r at hl hr
  match r, hl with
  | y :: x :: r, _ => exact ⟨r.reverse, x, y, by rw [← hr]; simp⟩
theorem stepV_op {b : List Bb} {pre : List Vv} {x y u : Vv} {e : Int} {o : Oo} (h1 : o.1 ≠ 1) (h2 : o.1 ≠ 2) (h : reckR o.1 x y = (u, e)) : stepV b (pre ++ [x, y]).reverse o = if e = 0 then .ok (pre ++ [u]).reverse else .error e := by
  unfold stepV
  rw [if_neg h1, if_neg h2]
  simp only [List.reverse_append, List.reverse_cons, List.reverse_nil, List.nil_append, List.cons_append]
  unfold reckR at h
  by_cases hk : x.1 = 1 ∧ y.1 = 1
  · rw [if_pos hk] at h
    simp only [hk, and_self, if_true]
    by_cases h0 : (doL o.1 x.2.1 y.2.1).2 = 0
    · simp only [h0, if_true] at h ⊢
      cases h; rfl
    · simp only [h0, if_false] at h ⊢
      cases h
      rw [if_neg h0]
  · rw [if_neg hk] at h
    simp only [hk, if_false]
    cases h; rfl

/-- What a step does to the stack. -/
def StepRes (B : Nat) (bs : List Bb) (st : List Vv) (o : Oo) (w : World) (r : Ending) (w' : World) : Prop :=
  (∃ (st' : List Vv) (s' : Option Addr) (n' c' : Nat), stepV bs st.reverse o = .ok st'.reverse ∧ r = .returned (.tuple #[.slice s' n' c', .int .i64 0]) ∧ w'.ownsRow B 139 3 (.slice s' n' c') n' (flatV st') ∧ Below B w w') ∨
  (∃ e : Int, stepV bs st.reverse o = .error e ∧ (e != 0) = true ∧ r = .returned (.tuple #[.slice none 0 0, .int .i64 e]) ∧ Below B w w')

/-- What Eval comes to. -/
def evalR (b : List Bb) (l : List Oo) : Vv × Int := if exprB l = true ∧ listB b = true then evalL b l else (zeroV, 1)

end Go.Proofs.YtcjnhhbcleljmaaGreatDoor.Sb
namespace Go.Proofs.YtcjnhhbcleljmaaGreatDoor.Sb
open Go.RowKit
open V

def trp (v : Vv) : Int × Int × List UInt8 := (v.1, v.2.1, v.2.2.data.toList)
/-- The order of two values. -/
def cmpVv (a b : Vv) : Int := cmpV (trp a) (trp b)
theorem cmp_zero (a b : Vv) : cmpVv a b = 0 ↔ a = b := by
  unfold cmpVv
  rw [ord_val.zero]
  obtain ⟨k, n, s⟩ := a
  obtain ⟨k', n', s'⟩ := b
  simp only [trp, Prod.mk.injEq]
  constructor
  · rintro ⟨h1, h2, h3⟩; exact ⟨h1, h2, bytes_ext h3⟩
  · rintro ⟨rfl, rfl, rfl⟩; exact ⟨rfl, rfl, rfl⟩
theorem cmp_anti (a b : Vv) : cmpVv b a = - cmpVv a b := ord_val.anti _ _
theorem cmp_tri (a b : Vv) : cmpVv a b = -1 ∨ cmpVv a b = 0 ∨ cmpVv a b = 1 := ord_val.tri _ _

/-- One of the four ways; one that asks for an order. -/
def wayB (how : Int) : Bool := decide (1 ≤ how ∧ how ≤ 4)
def askB (how : Int) : Bool := decide (how = 3 ∨ how = 4)
theorem way_four {how : Int} (h : wayB how = true) : how = 1 ∨ how = 2 ∨ how = 3 ∨ how = 4 := by
  have := of_decide_eq_true h
  omega
/-- What an order says of a way. -/
def sayB (how c : Int) : Bool := if how = 1 then decide (c = 0) else if how = 2 then decide (c ≠ 0) else if how = 3 then decide (c < 0) else decide (c ≤ 0)
/-- Whether two values compare that way; or why not. -/
def holdR (how : Int) (a b : Vv) : Bool × Int :=
  if wayB how = true ∧ rightVv a = true ∧ rightVv b = true then (if askB how = true ∧ a.1 ≠ b.1 then (false, 3) else (sayB how (cmpVv a b), 0)) else (false, 1)
theorem hold_no {how : Int} {a b : Vv} (h : wayB how = false ∨ rightVv a = false ∨ rightVv b = false) : holdR how a b = (false, 1) := by
  unfold holdR
  rw [if_neg]
  rintro ⟨h1, h2, h3⟩
  rcases h with h | h | h
  · rw [h1] at h; cases h
  · rw [h2] at h; cases h
  · rw [h3] at h; cases h
theorem hold_kind {how : Int} {a b : Vv} (h1 : wayB how = true) (h2 : rightVv a = true) (h3 : rightVv b = true) (h4 : askB how = true) (h5 : a.1 ≠ b.1) : holdR how a b = (false, 3) := by
  unfold holdR
  rw [if_pos ⟨h1, h2, h3⟩, if_pos ⟨h4, h5⟩]
theorem hold_yes {how : Int} {a b : Vv} (h1 : wayB how = true) (h2 : rightVv a = true) (h3 : rightVv b = true) (h4 : askB how = false ∨ a.1 = b.1) : holdR how a b = (sayB how (cmpVv a b), 0) := by
  unfold holdR
  rw [if_pos ⟨h1, h2, h3⟩, if_neg]
  rintro ⟨h5, h6⟩
  rcases h4 with h | h
  · rw [h5] at h; cases h
  · exact h6 h
/-- A comparison: its kind, its atom's name and count, its way, its sides. -/
def guardB (k : Int) (n : ByteArray) (m : Nat) (how : Int) (x y : List Oo) : Bool := decide (k = 3) && (decide (n.size = 0) && (decide (m = 0) && (wayB how && (exprB x && exprB y))))
theorem guard_iff {k : Int} {n : ByteArray} {m : Nat} {how : Int} {x y : List Oo} : guardB k n m how x y = true ↔ k = 3 ∧ n.size = 0 ∧ m = 0 ∧ wayB how = true ∧ exprB x = true ∧ exprB y = true := by
  simp [guardB]
/-- Whether one holds with the values of a list; or why not. -/
def testR (b : List Bb) (how : Int) (x y : List Oo) : Bool × Int :=
  if (evalR b x).2 ≠ 0 then (false, (evalR b x).2) else if (evalR b y).2 ≠ 0 then (false, (evalR b y).2) else holdR how (evalR b x).1 (evalR b y).1
def gevalR (b : List Bb) (k : Int) (n : ByteArray) (m : Nat) (how : Int) (x y : List Oo) : Bool × Int :=
  if guardB k n m how x y = true then testR b how x y else (false, 1)
theorem test_left {b : List Bb} {how : Int} {x y : List Oo} {v : Vv} {r : Int} (h : evalR b x = (v, r)) (h0 : r ≠ 0) : testR b how x y = (false, r) := by
  unfold testR
  rw [h, if_pos h0]
theorem test_right {b : List Bb} {how : Int} {x y : List Oo} {v u : Vv} {r : Int} (h : evalR b x = (v, 0)) (k : evalR b y = (u, r)) (h0 : r ≠ 0) : testR b how x y = (false, r) := by
  unfold testR
  rw [h, k, if_neg (by simp), if_pos h0]
theorem test_both {b : List Bb} {how : Int} {x y : List Oo} {v u : Vv} (h : evalR b x = (v, 0)) (k : evalR b y = (u, 0)) : testR b how x y = holdR how v u := by
  unfold testR
  rw [h, k, if_neg (by simp), if_neg (by simp)]
theorem geval_no {b : List Bb} {k : Int} {n : ByteArray} {m : Nat} {how : Int} {x y : List Oo} (h : guardB k n m how x y = false) : gevalR b k n m how x y = (false, 1) := by
  unfold gevalR
  rw [if_neg (by simp [h])]
theorem geval_yes {b : List Bb} {k : Int} {n : ByteArray} {m : Nat} {how : Int} {x y : List Oo} (h : guardB k n m how x y = true) : gevalR b k n m how x y = testR b how x y := by
  unfold gevalR
  rw [if_pos h]
theorem ret_hold {x q : Bool} {m n : Int} (h : (x, m) = (q, n)) : Ending.returned (.tuple #[.bool x, .int .i64 m]) = .returned (.tuple #[.bool q, .int .i64 n]) := by
  cases h; rfl
end Go.Proofs.YtcjnhhbcleljmaaGreatDoor.Sb
namespace Go.Proofs.YtcjnhhbcleljmaaGreatDoor.Sb
open Go.RowKit
open V
open Ex (RowO LiesO flatO)
open N (doL)

theorem runV_next {b : List Bb} {l : List Oo} {k : Nat} {s : List Vv} (hk : k < l.length) (h : runV b [] (l.take k) = .ok s) : runV b [] (l.take (k + 1)) = stepV b s l[k] := by
  rw [List.take_succ_eq_append_getElem hk, runV_app, h]
  simp only [runV]
  cases stepV b s l[k] <;> rfl
theorem runV_stop {b : List Bb} {l : List Oo} {k : Nat} {e : Int} (h : runV b [] (l.take k) = .error e) : evalL b l = (zeroV, e) := by
  have := runV_app b (l.take k) (l.drop k) []
  rw [List.take_append_drop, h] at this
  unfold evalL
  rw [this]
/-- How many values there are behind the first k steps. -/
theorem run_count {b : List Bb} {l : List Oo} {k : Nat} {s : List Vv} (hx : exprB l = true) (h : runV b [] (l.take k) = .ok s) : s.length = dep l k := by
  have hr := (expr_iff.1 hx).2.2
  exact (runV_below (b := b) [] (t := []) (dep_run hr k)).2 s h
theorem dep_le {l : List Oo} (h : runD 0 l = some 1) : ∀ k, k ≤ l.length → dep l k ≤ k
  | 0, _ => by rw [dep_zero]; exact Nat.le_refl _
  | k + 1, hk => by
    have := dep_le h k (by omega)
    rcases dep_step h (show k < l.length by omega) with ⟨_, e⟩ | ⟨_, _, e⟩ <;> omega
theorem run_can {b : List Bb} {l : List Oo} {k : Nat} {s : List Vv} (hx : exprB l = true) (hk : k < l.length) (h : runV b [] (l.take k) = .ok s.reverse) : pushO l[k] = true ∨ pushO l[k] = false ∧ 2 ≤ s.length := by
  have hc := run_count hx h
  rw [List.length_reverse] at hc
  rcases dep_step (expr_iff.1 hx).2.2 hk with ⟨hp, _⟩ | ⟨hp, h2, _⟩
  · exact Or.inl hp
  · exact Or.inr ⟨hp, by omega⟩
theorem run_end {b : List Bb} {l : List Oo} {k : Nat} {s : List Vv} (hx : exprB l = true) (hk : l.length ≤ k) (h : runV b [] (l.take k) = .ok s.reverse) : ∃ v, s = [v] ∧ evalL b l = (v, 0) := by
  rw [List.take_of_length_le hk] at h
  rcases run_one (b := b) hx with ⟨v, hv⟩ | ⟨e, he⟩
  · rw [h] at hv
    simp only [Except.ok.injEq] at hv
    have hs : s = [v] := by
      have := congrArg List.reverse hv
      simpa using this
    refine ⟨v, hs, ?_⟩
    unfold evalL
    rw [h, hv]
  · rw [he] at h; cases h

theorem heap_lt {W : World} {b : Nat} {o : Obj} (h : W.heap[b]? = some o) : b < W.heap.size := (Array.getElem?_eq_some_iff.1 h).1
/-- Texts stay short. -/
theorem stepV_small {b : List Bb} {s t : List Vv} {o : Oo} (hb : ∀ x ∈ b, Lt x) (ho : LtO o) (hs : ∀ v ∈ s, v.2.2.size ≤ 200) (h : stepV b s o = .ok t) : ∀ v ∈ t, v.2.2.size ≤ 200 := by
  unfold stepV at h
  split at h
  · split at h
    · rename_i u hu
      cases h
      intro v hv
      rcases List.mem_cons.1 hv with rfl | hv
      · exact (hb _ (get_mem hu)).2
      · exact hs v hv
    · cases h
  · split at h
    · cases h
      intro v hv
      rcases List.mem_cons.1 hv with rfl | hv
      · exact ho.2
      · exact hs v hv
    · split at h
      · split at h
        · split at h
          · cases h
            intro v hv
            rcases List.mem_cons.1 hv with rfl | hv
            · exact (show (⟨#[]⟩ : ByteArray).size ≤ 200 by decide)
            · exact hs v (List.mem_cons_of_mem _ (List.mem_cons_of_mem _ hv))
          · cases h
        · cases h
      · cases h
theorem runV_small {b : List Bb} (hb : ∀ x ∈ b, Lt x) : ∀ {l : List Oo} {s t : List Vv}, (∀ o ∈ l, LtO o) → (∀ v ∈ s, v.2.2.size ≤ 200) → runV b s l = .ok t → ∀ v ∈ t, v.2.2.size ≤ 200
  | [], s, t, _, hs, h => by cases h; exact hs
  | o :: l, s, t, hl, hs, h => by
    simp only [runV] at h
    cases hv : stepV b s o with
    | error e => rw [hv] at h; cases h
    | ok u =>
      rw [hv] at h
      exact runV_small hb (fun x hx => hl x (List.mem_cons_of_mem _ hx)) (stepV_small hb (hl o (List.mem_cons_self ..)) hs hv) h

end Go.Proofs.YtcjnhhbcleljmaaGreatDoor.Sb
namespace Go.Proofs.YtcjnhhbcleljmaaGreatDoor.Sb
open Go.RowKit
open V
open Ex (RowO LiesO flatO)

theorem expr_none : exprB [] = false := rfl
theorem push_kind {o : Oo} (h : rightO o = true) : decide ((3 : Int) ≤ o.1) = !pushO o := by
  rcases right_kind h with h | ⟨h, h'⟩
  · rw [h]
    simp only [pushO, decide_eq_true_eq] at h
    rcases h with h | h <;> simp [h]
  · rw [h]
    simp only [opO, decide_eq_true_eq] at h'
    rcases h' with h | h | h <;> simp [h]

theorem refIn_q (n lo hi : Int) (q : Bool) (w : World) (H : Hid (decide (lo ≤ n ∧ n ≤ hi) = q)) :
    Calls Tryz.prog 118 #[.int .i64 n, .int .i64 lo, .int .i64 hi] w fun e w' => e = .returned (.bool q) ∧ w' = w := by
  have := refIn_any n lo hi w
  rw [show inB n lo hi = q from unhide H] at this
  exact this
theorem r1 (n : ByteArray) (v : Vv) : rightO (1, n, v) = (varB n.data.toList && decide (v = zeroV)) := by simp [rightO]
theorem r2 (n : ByteArray) (v : Vv) : rightO (2, n, v) = (decide (n.size = 0) && rightVv v) := by simp [rightO]
theorem r3 {k : Int} (hk : k = 3 ∨ k = 4 ∨ k = 5) (n : ByteArray) (v : Vv) : rightO (k, n, v) = (decide (n.size = 0) && decide (v = zeroV)) := by
  have h1 : k ≠ 1 := by omega
  have h2 : k ≠ 2 := by omega
  simp [rightO, h1, h2, opO, hk]
theorem r0 {k : Int} (h1 : k ≠ 1) (h2 : k ≠ 2) (hk : ¬ (k = 3 ∨ k = 4 ∨ k = 5)) (n : ByteArray) (v : Vv) : rightO (k, n, v) = false := by
  simp [rightO, h1, h2, opO, hk]
theorem p1 (n : ByteArray) (v : Vv) : pushO (1, n, v) = true := rfl
theorem p2 (n : ByteArray) (v : Vv) : pushO (2, n, v) = true := rfl
theorem p3 {k : Int} (hk : k = 3 ∨ k = 4 ∨ k = 5) (n : ByteArray) (v : Vv) : pushO (k, n, v) = false := decide_eq_false (by intro h; simp only at h; omega)
theorem pos_t {n : ByteArray} (h : n.size ≠ 0) : decide (0 < n.size) = true := decide_eq_true (by omega)
theorem pos_f {n : ByteArray} (h : n.size = 0) : decide (0 < n.size) = false := decide_eq_false (by omega)

set_option maxHeartbeats 4000000 in
theorem refExpr_any (a : Option Addr) (len cap : Nat) (xs : List Oo) (w : World) (hrow : RowO w a xs) (hl : len ≤ xs.length) (hl' : xs.length ≤ len) (hL : ∀ x ∈ xs, LtO x) :
    Calls Tryz.prog 62 #[.slice a len cap] w fun e w' => e = .returned (.bool (exprB xs)) ∧ Below w.heap.size w w' := by
  by_cases hin : 1 ≤ len ∧ len ≤ 15
  · have F1 := fun W => refIn_q (len : Int) 1 15 true W (hide (decide_eq_true (by omega)))
    have h15 : len ≤ 15 := hin.2
    have HL := hide hL
    clear hL hin
    go_enter Tryz.func62, Tryz.ntmps62
    go_wp2_with fail
    refine (F1 _).mono ?_
    rintro e w0 ⟨rfl, hw0⟩
    subst w0
    clear F1
    go_wp2_with fail
    go_loopw [3, 4] (fun d i wr => ∃ k m : Nat, k ≤ len ∧ i = .int .i64 k ∧ d = .int .i64 m ∧ Hid (Upto xs k m) ∧ Below w.heap.size w wr) (fun _ i _ => len - (intOf i).toNat)
    case atStart => exact ⟨0, 0, Nat.zero_le _, rfl, rfl, hide (upto_zero xs), Below.refl _ _⟩
    case round =>
      obtain ⟨k, m, hk, rfl, rfl, HU, hbw⟩ := hrel
      have hmk := upto_le (unhide HU)
      by_cases hlt : k < len
      · obtain ⟨b, o, ha, hbl, c0, c1, c2, c3, c4⟩ := (hrow.on hbw).up (show k < xs.length by omega)
        subst ha
        have hsz := unhide HL xs[k] (List.getElem_mem (by omega))
        have hbx : Below w.heap.size w (wr.alloc (bxO xs[k])) := hbw.alloc hbw.size _
        have hq := quintO (heap_alloc_new wr (bxO xs[k]))
        have hkx : k < xs.length := by omega
        have HW := hide (fun (h : rightO xs[k] = false) => expr_wrong (l := xs) (show k < xs.length by omega) h)
        have HP := hide (fun (h : rightO xs[k] = true) (h' : pushO xs[k] = true) => upto_push (show k < xs.length by omega) (unhide HU) h h')
        have HT := hide (fun (h : rightO xs[k] = true) (h' : pushO xs[k] = false) (h2 : 2 ≤ m) => upto_take (show k < xs.length by omega) (unhide HU) h h' h2)
        have HF := hide (fun (h' : pushO xs[k] = false) (h2 : m < 2) => upto_few (show k < xs.length by omega) (unhide HU) h' h2)
        generalize xs[k] = t at c0 c1 c2 c3 c4 hsz hbx hq HW HP HT HF
        obtain ⟨kk, nn, vv⟩ := t
        simp only at c0 c1 c2 c3 c4
        obtain ⟨q0, q1, q2, q3, q4⟩ := hq
        simp only at q0 q1 q2 q3 q4
        obtain ⟨sz1, sz2⟩ := hsz
        simp only at sz1 sz2
        have hsw : wr.heap.size < (wr.alloc (bxO (kk, nn, vv))).heap.size := by simp
        by_cases h1 : kk = 1
        · subst h1
          have hr := r1 nn vv
          cases hv : varB nn.data.toList with
          | false =>
            have HE := hide (unhide HW (by rw [hr, hv]; rfl))
            have HV := hide hv
            clear HW HP HT HF hv hr
            go_wp2_with fail
            refine (refVar_q nn false _ sz1 HV).mono ?_
            rintro e w2 ⟨rfl, hb2⟩
            have p0 := cell_on hb2 q0
            have p1 := cell_on hb2 q1
            have p2 := cell_on hb2 q2
            have p3 := cell_on hb2 q3
            have p4 := cell_on hb2 q4
            clear c0 c1 c2 c3 c4 q0 q1 q2 q3 q4
            go_wp2_with fail
            go_ret
            exact ⟨ret_bool' (unhide HE).symm, bt hbx hb2⟩
          | true =>
            have HV := hide hv
            have hE := eqV0 vv zeroV
            by_cases hz : vv = zeroV
            · have HN := hide (unhide HP (by rw [hr, hv, decide_eq_true hz]; rfl) (p1 nn vv))
              rw [decide_eq_true hz] at hE
              simp only [zeroV] at hE
              clear HW HP HT HF hv hr hz
              go_wp2_with fail
              refine (refVar_q nn true _ sz1 HV).mono ?_
              rintro e w2 ⟨rfl, hb2⟩
              have p0 := cell_on hb2 q0
              have p1 := cell_on hb2 q1
              have p2 := cell_on hb2 q2
              have p3 := cell_on hb2 q3
              have p4 := cell_on hb2 q4
              clear c0 c1 c2 c3 c4 q0 q1 q2 q3 q4
              go_wp2_with fail
              go_roundw
              case rel => exact ⟨k + 1, m + 1, by omega, by go_num, by go_num, HN, bt hbx hb2⟩
              case measure => simp [intOf]; omega
            · have HE := hide (unhide HW (by rw [hr, hv, decide_eq_false hz]; rfl))
              rw [decide_eq_false hz] at hE
              simp only [zeroV] at hE
              clear HW HP HT HF hv hr hz
              go_wp2_with fail
              refine (refVar_q nn true _ sz1 HV).mono ?_
              rintro e w2 ⟨rfl, hb2⟩
              have p0 := cell_on hb2 q0
              have p1 := cell_on hb2 q1
              have p2 := cell_on hb2 q2
              have p3 := cell_on hb2 q3
              have p4 := cell_on hb2 q4
              clear c0 c1 c2 c3 c4 q0 q1 q2 q3 q4
              go_wp2_with fail
              go_ret
              exact ⟨ret_bool' (unhide HE).symm, bt hbx hb2⟩
        · by_cases h2 : kk = 2
          · subst h2
            have hr := r2 nn vv
            by_cases hs : nn.size = 0
            · have e0 := pos_f hs
              rw [decide_eq_true hs, Bool.true_and] at hr
              cases hv : rightVv vv with
              | false =>
                have HE := hide (unhide HW (by rw [hr, hv]))
                have HV := hide hv
                clear HW HP HT HF hv hr hs h1
                go_wp2_with fail
                refine (refVal_q vv false _ sz2 HV).mono ?_
                rintro e w2 ⟨rfl, hb2⟩
                have p0 := cell_on hb2 q0
                have p1 := cell_on hb2 q1
                have p2 := cell_on hb2 q2
                have p3 := cell_on hb2 q3
                have p4 := cell_on hb2 q4
                clear c0 c1 c2 c3 c4 q0 q1 q2 q3 q4
                go_wp2_with fail
                go_ret
                exact ⟨ret_bool' (unhide HE).symm, bt hbx hb2⟩
              | true =>
                have HN := hide (unhide HP (by rw [hr, hv]) (p2 nn vv))
                have HV := hide hv
                clear HW HP HT HF hv hr hs h1
                go_wp2_with fail
                refine (refVal_q vv true _ sz2 HV).mono ?_
                rintro e w2 ⟨rfl, hb2⟩
                have p0 := cell_on hb2 q0
                have p1 := cell_on hb2 q1
                have p2 := cell_on hb2 q2
                have p3 := cell_on hb2 q3
                have p4 := cell_on hb2 q4
                clear c0 c1 c2 c3 c4 q0 q1 q2 q3 q4
                go_wp2_with fail
                go_roundw
                case rel => exact ⟨k + 1, m + 1, by omega, by go_num, by go_num, HN, bt hbx hb2⟩
                case measure => simp [intOf]; omega
            · have e0 := pos_t hs
              have HE := hide (unhide HW (by rw [hr, decide_eq_false hs]; rfl))
              clear HW HP HT HF hr hs h1
              go_wp2_with fail
              go_ret
              exact ⟨ret_bool' (unhide HE).symm, hbx⟩
          · by_cases h3 : kk = 3 ∨ kk = 4 ∨ kk = 5
            · have hr := r3 h3 nn vv
              have hp := p3 h3 nn vv
              clear h1 h2
              have hE := eqV0 vv zeroV
              by_cases hs : nn.size = 0
              · have e0 := pos_f hs
                rw [decide_eq_true hs, Bool.true_and] at hr
                by_cases hz : vv = zeroV
                · rw [decide_eq_true hz] at hE
                  simp only [zeroV] at hE
                  by_cases hd : 2 ≤ m
                  · have HN := hide (unhide HT (by rw [hr, decide_eq_true hz]) hp hd)
                    have dd : decide ((m : Int) < 2) = false := decide_eq_false (by omega)
                    clear HW HP HT HF hr hp hs hz
                    rcases h3 with rfl | rfl | rfl
                    all_goals
                      go_wp2_with fail
                      go_roundw
                      case rel => exact ⟨k + 1, m - 1, by omega, by go_num, by rw [show ((m - 1 : Nat) : Int) = (m : Int) - 1 by omega], HN, hbx⟩
                      case measure => simp [intOf]; omega
                  · have HE := hide (unhide HF hp (by omega))
                    have dd : decide ((m : Int) < 2) = true := decide_eq_true (by omega)
                    clear HW HP HT HF hr hp hs hz hd
                    rcases h3 with rfl | rfl | rfl
                    all_goals
                      go_wp2_with fail
                      go_ret
                      exact ⟨ret_bool' (unhide HE).symm, hbx⟩
                · have HE := hide (unhide HW (by rw [hr, decide_eq_false hz]))
                  rw [decide_eq_false hz] at hE
                  simp only [zeroV] at hE
                  clear HW HP HT HF hr hp hs hz
                  rcases h3 with rfl | rfl | rfl
                  all_goals
                    go_wp2_with fail
                    go_ret
                    exact ⟨ret_bool' (unhide HE).symm, hbx⟩
              · have e0 := pos_t hs
                have HE := hide (unhide HW (by rw [hr, decide_eq_false hs]; rfl))
                clear HW HP HT HF hr hp hs hE
                rcases h3 with rfl | rfl | rfl
                all_goals
                  go_wp2_with fail
                  go_ret
                  exact ⟨ret_bool' (unhide HE).symm, hbx⟩
            · have HE := hide (unhide HW (r0 h1 h2 h3 nn vv))
              have e1 : (kk == 1) = false := by rw [beq_eq_false_iff_ne]; exact h1
              have e2 : (kk == 2) = false := by rw [beq_eq_false_iff_ne]; exact h2
              have e3 : (kk == 3) = false := by rw [beq_eq_false_iff_ne]; omega
              have e4 : (kk == 4) = false := by rw [beq_eq_false_iff_ne]; omega
              have e5 : (kk == 5) = false := by rw [beq_eq_false_iff_ne]; omega
              clear HW HP HT HF h1 h2 h3
              go_wp2_with fail
              go_ret
              exact ⟨ret_bool' (unhide HE).symm, hbx⟩
      · by_cases hd : m = 1
        · have HF := hide ((upto_end (l := xs) (by omega) (by omega) (unhide HU)).trans (decide_eq_true hd))
          subst hd
          go_wp2_with fail
          go_ret
          exact ⟨ret_bool' (unhide HF).symm, hbw⟩
        · have HF := hide ((upto_end (l := xs) (by omega) (by omega) (unhide HU)).trans (decide_eq_false hd))
          have dd : ((m : Int) == 1) = false := by simp; omega
          clear hd
          go_wp2_with fail
          go_ret
          exact ⟨ret_bool' (unhide HF).symm, hbw⟩
  · have F1 := fun W => refIn_q (len : Int) 1 15 false W (hide (decide_eq_false (by omega)))
    have HF : Hid (exprB xs = false) := by
      refine hide (Bool.eq_false_iff.2 (fun he => hin ?_))
      have := (expr_iff.1 he).1
      omega
    clear hin
    go_enter Tryz.func62, Tryz.ntmps62
    go_wp2_with fail
    refine (F1 _).mono ?_
    rintro e w0 ⟨rfl, hw0⟩
    subst w0
    clear F1
    go_wp2_with fail
    go_ret
    exact ⟨ret_bool' (unhide HF).symm, Below.refl _ _⟩
end Go.Proofs.YtcjnhhbcleljmaaGreatDoor.Sb
namespace Go.Proofs.YtcjnhhbcleljmaaGreatDoor.Sb
open Go.RowKit
open V

theorem rval_x (v : Vv) (q : Bool) (w : World) (hs : v.2.2.size ≤ 200) (H : Hid (rightVv v = q)) :
    Calls Tryz.prog 119 #[.agg #[.int .i64 v.1, .int .i64 v.2.1, .string v.2.2]] w fun e w' => e = .returned (.bool q) ∧ Below w.heap.size w w' := by
  have h := refValue_any v.1 v.2.1 v.2.2 w (by omega)
  rw [show rightB v.1 v.2.1 v.2.2.data.toList = q from unhide H] at h
  exact h
theorem asks_q (how : Int) (q : Bool) (w : World) (H : Hid (askB how = q)) :
    Calls Tryz.prog 196 #[.int .i64 how] w fun e w' => e = .returned (.bool q) ∧ w' = w := by
  by_cases h3 : how = 3
  · subst h3
    go_enter Tryz.func196, Tryz.ntmps196
    go_wp2_with fail
    go_ret
    exact ⟨ret_bool' (unhide H), rfl⟩
  · by_cases h4 : how = 4
    · subst h4
      go_enter Tryz.func196, Tryz.ntmps196
      go_wp2_with fail
      go_ret
      exact ⟨ret_bool' (unhide H), rfl⟩
    · have e3 : (how == 3) = false := by simp [h3]
      have e4 : (how == 4) = false := by simp [h4]
      have HF := hide (show false = q by rw [← unhide H]; exact (decide_eq_false (by omega)).symm)
      clear h3 h4
      go_enter Tryz.func196, Tryz.ntmps196
      go_wp2_with fail
      go_ret
      exact ⟨ret_bool' (unhide HF), rfl⟩
theorem isWay_q (how : Int) (q : Bool) (w : World) (H : Hid (wayB how = q)) :
    Calls Tryz.prog 173 #[.int .i64 how] w fun e w' => e = .returned (.bool q) ∧ w' = w := by
  by_cases h1 : how = 1
  · subst h1
    go_enter Tryz.func173, Tryz.ntmps173
    go_wp2_with fail
    go_ret
    exact ⟨ret_bool' (unhide H), rfl⟩
  · by_cases h2 : how = 2
    · subst h2
      go_enter Tryz.func173, Tryz.ntmps173
      go_wp2_with fail
      go_ret
      exact ⟨ret_bool' (unhide H), rfl⟩
    · have e1 : (how == 1) = false := by simp [h1]
      have e2 : (how == 2) = false := by simp [h2]
      have HF := hide (show askB how = q by rw [← unhide H]; unfold wayB askB; by_cases h : how = 3 ∨ how = 4 <;> simp [h] <;> omega)
      clear h1 h2
      go_enter Tryz.func173, Tryz.ntmps173
      go_wp2_with fail
      refine (asks_q how q _ HF).mono ?_
      rintro e w1 ⟨rfl, rfl⟩
      go_wp2_with fail
      go_ret
      exact ⟨rfl, rfl⟩
/-- Two boxes of values. -/
structure B2 (W : World) (b : Nat) (x y : Vv) : Prop where
  a0 : W.cell? ⟨b, 0, none⟩ = some (.int .i64 x.1)
  a1 : W.cell? ⟨b, 1, none⟩ = some (.int .i64 x.2.1)
  a2 : W.cell? ⟨b, 2, none⟩ = some (.string x.2.2)
  b0 : W.cell? ⟨b + 1, 0, none⟩ = some (.int .i64 y.1)
  b1 : W.cell? ⟨b + 1, 1, none⟩ = some (.int .i64 y.2.1)
  b2 : W.cell? ⟨b + 1, 2, none⟩ = some (.string y.2.2)
theorem B2.on {W w1 : World} {b : Nat} {x y : Vv} (T : B2 W b x y) (hb : Below W.heap.size W w1) : B2 w1 b x y :=
  ⟨cell_on hb T.a0, cell_on hb T.a1, cell_on hb T.a2, cell_on hb T.b0, cell_on hb T.b1, cell_on hb T.b2⟩
theorem b2_of (w : World) (x y : Vv) : B2 ((w.alloc (bxV x)).alloc (bxV y)) w.heap.size x y ∧ Below w.heap.size w ((w.alloc (bxV x)).alloc (bxV y)) := by
  have s1 : (w.alloc (bxV x)).heap.size = w.heap.size + 1 := by simp
  have h1 := heap_alloc_new (w.alloc (bxV x)) (bxV y)
  rw [s1] at h1
  have h0 : ((w.alloc (bxV x)).alloc (bxV y)).heap[w.heap.size]? = some (bxV x) := by
    rw [Lib.alloc_old _ _ _ (by omega)]; exact heap_alloc_new w (bxV x)
  obtain ⟨p0, p1, p2⟩ := trip_of h0
  obtain ⟨q0, q1, q2⟩ := trip_of h1
  exact ⟨⟨p0, p1, p2, q0, q1, q2⟩, ((Below.refl _ _).alloc (Nat.le_refl _) _).alloc (by simp) _⟩

end Go.Proofs.YtcjnhhbcleljmaaGreatDoor.Sb
namespace Go.Proofs.YtcjnhhbcleljmaaGreatDoor.Sb
open Go.RowKit
open V
open Ex (RowO LiesO flatO flatO_len flatO_app flatO_oneCell liesO_own liesO_none)

theorem infoO : (Tryz.prog.info? 144).map (fun i => (i.zero, i.size, i.bytes)) = some (some (.agg #[.int .i64 0, .string ⟨#[]⟩, .int .i64 0, .int .i64 0, .string ⟨#[]⟩]), 5, 56) := by kernel_rfl
theorem flatO_cells {W : World} {b o : Nat} (xs : List Oo) (hc : ∀ (i : Nat) (x : Oo), xs[i]? = some x → W.cell? ⟨b, o + i * 5, none⟩ = some (.int .i64 x.1) ∧ W.cell? ⟨b, o + i * 5 + 1, none⟩ = some (.string x.2.1) ∧ W.cell? ⟨b, o + i * 5 + 2, none⟩ = some (.int .i64 x.2.2.1) ∧ W.cell? ⟨b, o + i * 5 + 3, none⟩ = some (.int .i64 x.2.2.2.1) ∧ W.cell? ⟨b, o + i * 5 + 4, none⟩ = some (.string x.2.2.2.2)) : ∀ (j : Nat) (u : Value), (flatO xs)[j]? = some u → W.cell? ⟨b, o + j, none⟩ = some u := by
  induction xs generalizing o with
  | nil => intro j u h; simp [flatO] at h
  | cons x r ih =>
    intro j u h
    obtain ⟨h0, h1, h2, h3, h4⟩ := hc 0 x rfl
    match j with
    | 0 => simp [flatO] at h; subst h; simpa using h0
    | 1 => simp [flatO] at h; subst h; simpa using h1
    | 2 => simp [flatO] at h; subst h; simpa using h2
    | 3 => simp [flatO] at h; subst h; simpa using h3
    | 4 => simp [flatO] at h; subst h; simpa using h4
    | j + 5 =>
      have := ih (o := o + 5) (fun i v hv => by
        have := hc (i + 1) v (by simpa using hv)
        rw [show o + (i + 1) * 5 = o + 5 + i * 5 by omega] at this
        exact this) j u (by simpa [flatO] using h)
      rw [show o + (j + 5) = o + 5 + j by omega]
      exact this
theorem rowO_cells {W : World} {ad : Addr} {xs : List Oo} (h : RowO W (some ad) xs) : ∀ (j : Nat) (u : Value), (flatO xs)[j]? = some u → W.cell? (ad.add j) = some u := by
  rcases h with h | ⟨b, o, h, hlt, hc⟩
  · subst h; intro j u hu; simp [flatO] at hu
  · simp only [Option.some.injEq] at h
    subst h
    intro j u hu
    rw [WideShapes.add_plain]
    exact flatO_cells xs hc j u hu

set_option maxHeartbeats 2000000 in
theorem twinO_any (a : Option Addr) (len cap : Nat) (xs : List Oo) (w : World) (hx : LiesO w a len cap xs) (h1k : len ≤ 20000) :
    Calls Tryz.prog 48 #[.slice a len cap] w fun e w' => ∃ (q : Option Addr) (c : Nat), e = .returned (.slice q len c) ∧ w'.ownsRow w.heap.size 144 5 (.slice q len c) len (flatO xs) ∧ Below w.heap.size w w' := by
  obtain ⟨i0, hi, hz0, hz1, hz2⟩ := info_parts infoO
  obtain ⟨hrow, hlen, hnil, hcap⟩ := hx
  cases a with
  | none =>
    have h0 := hnil rfl
    subst h0
    have hl0 : len = 0 := by omega
    subst hl0
    have hxe : xs = [] := List.eq_nil_of_length_eq_zero hlen.symm
    subst hxe
    clear hrow hlen hnil hcap
    go_enter Tryz.func48, Tryz.ntmps48
    go_wp2_with (at_builtin; refine wpList_append_own_none rfl _ _ 81 rfl w.heap.size 144 i0 5 Tryz.underlying81 hi _ 0 [] rfl (World.ownsRow_nil _ _ _ _) rfl ?_)
    go_ret
    exact ⟨none, 0, rfl, World.ownsRow_nil _ _ _ _, Below.refl _ _⟩
  | some ad =>
    have hcs := hide (rowO_cells hrow)
    have hfl := hide (flatO_len xs)
    have hl1 : len ≤ xs.length := by omega
    have hl2 : xs.length ≤ len := by omega
    clear hlen hrow hnil
    go_enter Tryz.func48, Tryz.ntmps48
    go_wp2_with (at_builtin; refine wpList_append_own_wide _ rfl _ _ 81 rfl w.heap.size 144 i0 (.agg #[.int .i64 0, .string ⟨#[]⟩, .int .i64 0, .int .i64 0, .string ⟨#[]⟩]) 5 56 Tryz.underlying81 hi hz0 hz1 hz2 rfl (by decide) _ 0 [] rfl (World.ownsRow_nil _ _ _ _) ad len cap (flatO xs) rfl ?c0 ?c1 ?c2 ?c3 ?c4 ?c5 ?_)
    case c0 => rw [unhide hfl]; omega
    case c1 => exact unhide hcs
    case c2 => exact flatO_oneCell xs
    case c3 => unfold maxLen; omega
    case c4 => omega
    case c5 => exact Nat.le_refl _
    intro v' w3 hown3 hgrow hnil3
    obtain ⟨aq3, cq3, rfl⟩ := own_slice hown3
    have hbw3 := (Below.refl w.heap.size w).grown hgrow (Nat.le_refl _) (fun m hm => by cases hm)
    clear hgrow hnil3 hcs
    go_wp2_with fail
    go_ret
    exact ⟨aq3, cq3, rfl, hown3, hbw3⟩

theorem eqO_in (x y : Oo) (w : World) : (Op.equalIn 10000 144 (.agg #[.int .i64 x.1, .string x.2.1, .int .i64 x.2.2.1, .int .i64 x.2.2.2.1, .string x.2.2.2.2]) (.agg #[.int .i64 y.1, .string y.2.1, .int .i64 y.2.2.1, .int .i64 y.2.2.2.1, .string y.2.2.2.2])).run Tryz.prog w = .ok (decide (x = y)) w := by
  have u3 := Tryz.underlying3
  have a3 := Tryz.isAgg3
  have z3 := Tryz.sizeOf3
  have u9 := Tryz.underlying9
  have a9 := Tryz.isAgg9
  have z9 := Tryz.sizeOf9
  have a24 := Tryz.isAgg139
  have z24 := Tryz.sizeOf139
  have hS : Tryz.prog.underlying 144 = some (.struct (Tryz.prog.fieldsOf 144)) := by kernel_rfl
  have hp : Tryz.prog.stoodInHeld 144 = false := by kernel_rfl
  have hV := eqV_in
  rw [show (10000 : Nat) = 9999 + 1 from rfl, run_equalIn_agg w 9999 144 _ _ hS hp]
  simp only [Program.fieldsOf, Tryz.underlying144]
  clear hS hp
  go_simp
  simp only [toList_inj]
  obtain ⟨k, n, a, b, c⟩ := x
  obtain ⟨k', n', a', b', c'⟩ := y
  by_cases hk : k = k' <;> by_cases h0 : n = n' <;> by_cases h1 : a = a' <;> by_cases h2 : b = b' <;> by_cases h3 : c = c' <;> simp [hk, h0, h1, h2, h3]

theorem listO_ne {xs ys : List Oo} {k : Nat} (hx : k < xs.length) (hy : k < ys.length) (h : xs[k] ≠ ys[k]) : xs ≠ ys := by
  intro e
  subst e
  exact h rfl
theorem takeO_same {xs ys : List Oo} {k : Nat} (hx : k < xs.length) (hy : k < ys.length) (h : xs[k] = ys[k]) (hp : xs.take k = ys.take k) : xs.take (k + 1) = ys.take (k + 1) := by
  rw [List.take_succ_eq_append_getElem hx, List.take_succ_eq_append_getElem hy, hp, h]

set_option maxHeartbeats 2000000 in
theorem keepOps_any (a a' : Option Addr) (len len' cap cap' : Nat) (xs ys : List Oo) (w : World) (hr : RowO w a xs) (hr' : RowO w a' ys) (hl : len ≤ xs.length) (hl' : xs.length ≤ len) (hm : len' ≤ ys.length) (hm' : ys.length ≤ len') (h1k : len ≤ 20000) :
    Calls Tryz.prog 114 #[.slice a len cap, .slice a' len' cap'] w fun e w' => e = .returned (.bool (decide (xs = ys))) ∧ Below w.heap.size w w' := by
  by_cases hll : len = len'
  · subst hll
    go_enter Tryz.func114, Tryz.ntmps114
    go_wp2_with fail
    go_loopw [5] (fun i wr => ∃ k : Nat, k ≤ len ∧ i = .int .i64 k ∧ Hid (xs.take k = ys.take k) ∧ (∃ d, wr = w.drewN d)) (fun i _ => len - (intOf i).toNat)
    case atStart => exact ⟨0, Nat.zero_le _, rfl, hide (by simp), 0, rfl⟩
    case round =>
      obtain ⟨k, hk, rfl, HK, d, rfl⟩ := hrel
      by_cases hlt : k < len
      · obtain ⟨b, o, ha, hbl, c0, c1, c2, c3, c4⟩ := hr.up (show k < xs.length by omega)
        obtain ⟨b', o', ha', hbl', c0', c1', c2', c3', c4'⟩ := hr'.up (show k < ys.length by omega)
        subst ha
        subst ha'
        have hE := eqO_in xs[k] ys[k]
        by_cases heq : xs[k] = ys[k]
        · have HN := hide (takeO_same (show k < xs.length by omega) (show k < ys.length by omega) heq (unhide HK))
          rw [decide_eq_true heq] at hE
          clear heq
          generalize xs[k] = x at c0 c1 c2 c3 c4 hE
          generalize ys[k] = y at c0' c1' c2' c3' c4' hE
          go_wp2_with fail
          go_quiet (fail)
          go_wp2_with fail
          go_roundw
          case rel => exact ⟨k + 1, by omega, by go_num, HN, d + nq, by simp⟩
          case measure => simp [intOf]; omega
        · have HN := hide (listO_ne (show k < xs.length by omega) (show k < ys.length by omega) heq)
          rw [decide_eq_false heq] at hE
          clear heq
          generalize xs[k] = x at c0 c1 c2 c3 c4 hE
          generalize ys[k] = y at c0' c1' c2' c3' c4' hE
          go_wp2_with fail
          go_quiet (fail)
          go_wp2_with fail
          go_ret
          exact ⟨ret_bool' (by rw [decide_eq_false (unhide HN)]), below_drewN (below_drewN (Below.refl _ _) d) nq⟩
      · have HN : Hid (xs = ys) := by
          have h := unhide HK
          rw [List.take_of_length_le (by omega), List.take_of_length_le (by omega)] at h
          exact h
        go_wp2_with fail
        go_ret
        exact ⟨ret_bool' (by rw [decide_eq_true (unhide HN)]), below_drewN (Below.refl _ _) d⟩
  · have HN : Hid (decide (xs = ys) = false) := by
      refine decide_eq_false (fun e => ?_)
      subst e
      omega
    have el : ((len : Int) != len') = true := by simp; omega
    go_enter Tryz.func114, Tryz.ntmps114
    go_wp2_with fail
    go_ret
    exact ⟨ret_bool' (unhide HN).symm, Below.refl _ _⟩

set_option maxHeartbeats 2000000 in
theorem oheavy_any (a : Option Addr) (len cap : Nat) (xs : List Oo) (w : World) (hrow : RowO w a xs) (hl : len ≤ xs.length) (hl' : xs.length ≤ len) :
    Calls Tryz.prog 46 #[.slice a len cap] w fun e w' => ((e = .returned (.bool true)) ∨ (e = .returned (.bool false) ∧ len ≤ 40 ∧ ∀ x ∈ xs, LtO x)) ∧ Below w.heap.size w w' := by
  by_cases h110 : 40 < len
  · have d110 : decide (40 < (len : Int)) = true := by simp; omega
    go_enter Tryz.func46, Tryz.ntmps46
    go_wp2_with fail
    go_ret
    exact ⟨Or.inl rfl, Below.refl _ _⟩
  · have d110 : decide (40 < (len : Int)) = false := by simp; omega
    go_enter Tryz.func46, Tryz.ntmps46
    go_wp2_with fail
    go_loopw [3] (fun i wr => ∃ k : Nat, k ≤ len ∧ i = .int .i64 k ∧ Hid (∀ j (_ : j < xs.length), j < k → LtO xs[j]) ∧ Below w.heap.size w wr) (fun i _ => len - (intOf i).toNat)
    case atStart => exact ⟨0, Nat.zero_le _, rfl, hide (fun j _ h => by omega), Below.refl _ _⟩
    case round =>
      obtain ⟨k, hk, rfl, HK, hbw⟩ := hrel
      by_cases hlt : k < len
      · obtain ⟨b, o, ha, hbl, c0, c1, c2, c3, c4⟩ := (hrow.on hbw).up (show k < xs.length by omega)
        subst ha
        by_cases h1 : 200 < xs[k].2.1.size
        · have d1 := size_t h1
          clear h1
          generalize xs[k] = x at c0 c1 c2 c3 c4 d1
          go_wp2_with fail
          go_ret
          exact ⟨Or.inl rfl, hbw⟩
        · have d1 := size_f h1
          by_cases h2 : 200 < xs[k].2.2.2.2.size
          · have d2 := size_t h2
            clear h1 h2
            generalize xs[k] = x at c0 c1 c2 c3 c4 d1 d2
            go_wp2_with fail
            go_ret
            exact ⟨Or.inl rfl, hbw⟩
          · have d2 := size_f h2
            have HN : Hid (∀ j (_ : j < xs.length), j < k + 1 → LtO xs[j]) := by
              refine hide (fun j hj hjk => ?_)
              by_cases e : j < k
              · exact unhide HK j hj e
              · have : j = k := by omega
                subst this
                exact ⟨by omega, by omega⟩
            clear h1 h2
            generalize xs[k] = x at c0 c1 c2 c3 c4 d1 d2
            go_wp2_with fail
            go_roundw
            case rel => exact ⟨k + 1, by omega, by go_num, HN, hbw⟩
            case measure => simp [intOf]; omega
      · have HN : Hid (∀ x ∈ xs, LtO x) := by
          refine hide (fun x hx => ?_)
          obtain ⟨j, hj, rfl⟩ := List.getElem_of_mem hx
          exact unhide HK j hj (by omega)
        go_wp2_with fail
        go_ret
        exact ⟨Or.inr ⟨rfl, by omega, unhide HN⟩, hbw⟩
end Go.Proofs.YtcjnhhbcleljmaaGreatDoor.Sb
namespace Go.Proofs.YtcjnhhbcleljmaaGreatDoor.Sb
open Go.RowKit
open V
theorem pair_of {W : World} {b : Nat} {x y : Value} {T : TypeId} (h : W.heap[b]? = some (.cells #[x, y] T)) : W.cell? ⟨b, 0, none⟩ = some x ∧ W.cell? ⟨b, 1, none⟩ = some y :=
  ⟨by rw [Lib.cell_of_heap h]; rfl, by rw [Lib.cell_of_heap h]; rfl⟩
abbrev bxA (n : ByteArray) (a : Option Addr) (len cap : Nat) : Obj := .cells #[.string n, .slice a len cap] 46
theorem lies_drew {w : World} {a : Option Addr} {n cap : Nat} {xs : List Bb} (h : Lies w a n cap xs) : Lies w.drew a n cap xs := h.on (Below.refl _ _).drew
theorem three_of (w : World) (A B C : Obj) : Below w.heap.size w (((w.alloc A).alloc B).alloc C) ∧ (((w.alloc A).alloc B).alloc C).heap[w.heap.size]? = some A ∧ (((w.alloc A).alloc B).alloc C).heap[w.heap.size + 1]? = some B ∧ (((w.alloc A).alloc B).alloc C).heap[w.heap.size + 1 + 1]? = some C := by
  have s1 : (w.alloc A).heap.size = w.heap.size + 1 := by simp
  have s2 : ((w.alloc A).alloc B).heap.size = w.heap.size + 1 + 1 := by simp
  have h0 := heap_alloc_new w A
  have h1 := heap_alloc_new (w.alloc A) B
  have h2 := heap_alloc_new ((w.alloc A).alloc B) C
  rw [s1] at h1
  rw [s2] at h2
  refine ⟨(((Below.refl _ _).alloc (Nat.le_refl _) _).alloc (by omega) _).alloc (by omega) _, ?_, ?_, h2⟩
  · rw [Lib.alloc_old _ _ _ (by omega), Lib.alloc_old _ _ _ (by omega)]; exact h0
  · rw [Lib.alloc_old _ _ _ (by omega)]; exact h1
end Go.Proofs.YtcjnhhbcleljmaaGreatDoor.Sb
namespace Go.Proofs.YtcjnhhbcleljmaaGreatDoor.Sb
open Go.RowKit
open V

set_option maxHeartbeats 1000000 in
theorem aheavy_any (n : ByteArray) (a : Option Addr) (len cap : Nat) (ts : List Bb) (w : World) (hA : Lies w a len cap ts) :
    Calls Tryz.prog 43 #[.agg #[.string n, .slice a len cap]] w fun e w' => ((e = .returned (.bool true)) ∨ (e = .returned (.bool false) ∧ n.size ≤ 200 ∧ len ≤ 20 ∧ ∀ t ∈ ts, Lt t)) ∧ Below w.heap.size w w' := by
  have hl := hA.le
  have hl' := hA.ge
  by_cases hn : 200 < n.size
  · go_enter Tryz.func43, Tryz.ntmps43
    go_wp2_with fail
    go_ret
    exact ⟨Or.inl rfl, (Below.refl _ _).alloc (Nat.le_refl _) _⟩
  · by_cases h20 : 20 < len
    · go_enter Tryz.func43, Tryz.ntmps43
      go_wp2_with fail
      go_ret
      exact ⟨Or.inl rfl, (Below.refl _ _).alloc (Nat.le_refl _) _⟩
    · have hby : Below w.heap.size w (w.alloc (bxA n a len cap)) := (Below.refl _ _).alloc (Nat.le_refl _) _
      have hrow' := hA.row.on hby
      clear hA
      go_enter Tryz.func43, Tryz.ntmps43
      go_wp2_with fail
      go_loop [3] (fun i => ∃ k : Nat, k ≤ len ∧ i = .int .i64 k ∧ Hid (∀ t ∈ ts.take k, Lt t)) (fun i => len - (intOf i).toNat)
      case atStart => exact ⟨0, Nat.zero_le _, rfl, hide (by simp)⟩
      case round =>
        obtain ⟨k, hk, rfl, HK⟩ := hrel
        by_cases hlt : k < len
        · obtain ⟨b, o, ha, hbl, c0, c1, c2, c3⟩ := hrow'.up (show k < ts.length by omega)
          subst ha
          by_cases hs : 200 < ts[k].1.size
          · go_wp2_with fail
            go_ret
            exact ⟨Or.inl rfl, hby⟩
          · by_cases hs2 : 200 < ts[k].2.2.2.size
            · go_wp2_with fail
              go_ret
              exact ⟨Or.inl rfl, hby⟩
            · have HN : Hid (∀ t ∈ ts.take (k + 1), Lt t) := by
                show ∀ t ∈ ts.take (k + 1), Lt t
                intro v hv
                rw [List.take_succ_eq_append_getElem (show k < ts.length by omega)] at hv
                rcases List.mem_append.1 hv with h | h
                · exact unhide HK v h
                · rw [List.mem_singleton.1 h]; exact ⟨by omega, by omega⟩
              go_wp2_with fail
              go_round
              case rel => exact ⟨k + 1, by omega, by go_num, HN⟩
              case measure => simp [intOf]; omega
        · have HN : Hid (∀ t ∈ ts, Lt t) := by
            have h := unhide HK
            rw [List.take_of_length_le (by omega)] at h
            exact h
          go_wp2_with fail
          go_ret
          exact ⟨Or.inr ⟨rfl, by omega, by omega, fun _ _ _ _ h => unhide HN _ h⟩, hby⟩
end Go.Proofs.YtcjnhhbcleljmaaGreatDoor.Sb
namespace Go.Proofs.YtcjnhhbcleljmaaGreatDoor.Sb
open Go.RowKit
open V
open Ex (RowO LiesO flatO)

/-- A condition, as it is handed on: kind, atom, way, two sides. -/
structure Cd where
  k : Int
  n : ByteArray
  a : Option Addr
  m : Nat
  mc : Nat
  ts : List Bb
  h : Int
  la : Option Addr
  ll : Nat
  lc : Nat
  xs : List Oo
  ra : Option Addr
  rl : Nat
  rc : Nat
  ys : List Oo
/-- Its rows lie there. -/
structure Cd.In (c : Cd) (w : World) : Prop where
  t : Lies w c.a c.m c.mc c.ts
  x : LiesO w c.la c.ll c.lc c.xs
  y : LiesO w c.ra c.rl c.rc c.ys
/-- Not too long to be played. -/
structure Cd.Light (c : Cd) : Prop where
  n : c.n.size ≤ 200
  m : c.m ≤ 20
  l : c.ll ≤ 40
  r : c.rl ≤ 40
  t : ∀ t ∈ c.ts, Lt t
  x : ∀ x ∈ c.xs, LtO x
  y : ∀ x ∈ c.ys, LtO x
theorem Cd.In.on {c : Cd} {w w' : World} (h : c.In w) (hb : Below w.heap.size w w') : c.In w' := ⟨h.t.on hb, h.x.on hb, h.y.on hb⟩
abbrev bxC (c : Cd) : Obj := .cells #[.int .i64 c.k, .string c.n, .slice c.a c.m c.mc, .int .i64 c.h, .slice c.la c.ll c.lc, .slice c.ra c.rl c.rc] 83
/-- Its box. -/
structure BC (W : World) (b : Nat) (c : Cd) : Prop where
  c0 : W.cell? ⟨b, 0, none⟩ = some (.int .i64 c.k)
  c1 : W.cell? ⟨b, 1, none⟩ = some (.string c.n)
  c2 : W.cell? ⟨b, 2, none⟩ = some (.slice c.a c.m c.mc)
  c3 : W.cell? ⟨b, 3, none⟩ = some (.int .i64 c.h)
  c4 : W.cell? ⟨b, 4, none⟩ = some (.slice c.la c.ll c.lc)
  c5 : W.cell? ⟨b, 5, none⟩ = some (.slice c.ra c.rl c.rc)
theorem bc_of {W : World} {b : Nat} {c : Cd} (h : W.heap[b]? = some (bxC c)) : BC W b c := by
  refine ⟨?_, ?_, ?_, ?_, ?_, ?_⟩ <;> (rw [Lib.cell_of_heap h]; rfl)
theorem BC.on {W w1 : World} {b : Nat} {c : Cd} (T : BC W b c) (hb : Below W.heap.size W w1) : BC w1 b c :=
  ⟨cell_on hb T.c0, cell_on hb T.c1, cell_on hb T.c2, cell_on hb T.c3, cell_on hb T.c4, cell_on hb T.c5⟩
theorem below_new (w : World) (o : Obj) : Below w.heap.size w (w.alloc o) := (Below.refl _ _).alloc (Nat.le_refl _) _

set_option maxHeartbeats 2000000 in
theorem cheavy_any (c : Cd) (w : World) (hc : c.In w) :
    Calls Tryz.prog 45 #[.agg #[.int .i64 c.k, .string c.n, .slice c.a c.m c.mc, .int .i64 c.h, .slice c.la c.ll c.lc, .slice c.ra c.rl c.rc]] w fun e w' => ((e = .returned (.bool true)) ∨ (e = .returned (.bool false) ∧ c.Light)) ∧ Below w.heap.size w w' := by
  have hb0 := below_new w (bxC c)
  have T0 := bc_of (heap_alloc_new w (bxC c))
  have hc0 := hc.on hb0
  go_enter Tryz.func45, Tryz.ntmps45
  go_wp2_with fail
  generalize w.alloc (bxC c) = W at hb0 T0 hc0
  refine (aheavy_any c.n c.a c.m c.mc c.ts W hc0.t).mono ?_
  rintro e w1 ⟨rfl | ⟨rfl, hn, hm, ht⟩, hb1⟩
  · clear T0 hc0
    go_wp2_with fail
    go_ret
    exact ⟨Or.inl rfl, bt hb0 hb1⟩
  have T1 := T0.on hb1
  have hc1 := hc0.on hb1
  have hw1 := bt hb0 hb1
  clear T0 hc0 hb0 hb1
  obtain ⟨c0, c1, c2, c3, c4, c5⟩ := T1
  go_wp2_with fail
  refine (oheavy_any c.la c.ll c.lc c.xs w1 hc1.x.row hc1.x.le hc1.x.ge).mono ?_
  rintro e w2 ⟨rfl | ⟨rfl, hl, hx⟩, hb2⟩
  · clear hc1 c0 c1 c2 c3 c4 c5
    go_wp2_with fail
    go_ret
    exact ⟨Or.inl rfl, bt hw1 hb2⟩
  have T2 := (BC.mk c0 c1 c2 c3 c4 c5).on hb2
  have hc2 := hc1.on hb2
  have hw2 := bt hw1 hb2
  clear hc1 hw1 hb2 c0 c1 c2 c3 c4 c5
  obtain ⟨c0, c1, c2, c3, c4, c5⟩ := T2
  go_wp2_with fail
  refine (oheavy_any c.ra c.rl c.rc c.ys w2 hc2.y.row hc2.y.le hc2.y.ge).mono ?_
  rintro e w3 ⟨rfl | ⟨rfl, hr, hy⟩, hb3⟩
  · clear hc2 c0 c1 c2 c3 c4 c5
    go_wp2_with fail
    go_ret
    exact ⟨Or.inl rfl, bt hw2 hb3⟩
  clear hc2 c0 c1 c2 c3 c4 c5
  have HL := hide (show c.Light from ⟨hn, hm, hl, hr, ht, hx, hy⟩)
  clear hn hm hl hr ht hx hy
  go_wp2_with fail
  go_ret
  exact ⟨Or.inr ⟨rfl, unhide HL⟩, bt hw2 hb3⟩

theorem isZero_q (n : ByteArray) (a : Option Addr) (m mc : Nat) (q : Bool) (w : World) (H : Hid ((decide (n.size = 0) && decide (m = 0)) = q)) :
    Calls Tryz.prog 172 #[.agg #[.string n, .slice a m mc]] w fun e w' => e = .returned (.bool q) ∧ Below w.heap.size w w' := by
  by_cases hn : n.size = 0
  · have e1 := emp_t hn
    by_cases hm : m = 0
    · have HQ := hide (show true = q by rw [← unhide H]; simp [hn, hm])
      have e2 : ((m : Int) == 0) = true := by simp [hm]
      clear H hn
      go_enter Tryz.func172, Tryz.ntmps172
      go_wp2_with fail
      go_ret
      exact ⟨ret_bool' (unhide HQ), below_new w _⟩
    · have HQ := hide (show false = q by rw [← unhide H]; simp [hm])
      have e2 : ((m : Int) == 0) = false := by simp [hm]
      clear H hn hm
      go_enter Tryz.func172, Tryz.ntmps172
      go_wp2_with fail
      go_ret
      exact ⟨ret_bool' (unhide HQ), below_new w _⟩
  · have e1 := emp_f hn
    have HQ := hide (show false = q by rw [← unhide H]; simp [hn])
    clear H hn
    go_enter Tryz.func172, Tryz.ntmps172
    go_wp2_with fail
    go_ret
    exact ⟨ret_bool' (unhide HQ), below_new w _⟩
theorem echeck_x (a : Option Addr) (len cap : Nat) (xs : List Oo) (r : Int) (w : World) (hA : LiesO w a len cap xs) (hL : ∀ x ∈ xs, LtO x) (h1k : len ≤ 20000) (H : Hid (chk (exprB xs) = r)) :
    Calls Tryz.prog 174 #[.slice a len cap] w fun e w' => e = .returned (.int .i64 r) ∧ Below w.heap.size w w' := by
  have := echeck_any a len cap xs w hA.row hA.le hA.ge hL h1k
  rw [unhide H] at this
  exact this

set_option maxHeartbeats 2000000 in
theorem gcheck_any (c : Cd) (r : Int) (w : World) (hc : c.In w) (hL : c.Light) (H : Hid (chk (guardB c.k c.n c.m c.h c.xs c.ys) = r)) :
    Calls Tryz.prog 122 #[.agg #[.int .i64 c.k, .string c.n, .slice c.a c.m c.mc, .int .i64 c.h, .slice c.la c.ll c.lc, .slice c.ra c.rl c.rc]] w fun e w' => e = .returned (.int .i64 r) ∧ Below w.heap.size w w' := by
  have hb0 := below_new w (bxC c)
  have T0 := bc_of (heap_alloc_new w (bxC c))
  have hc0 := hc.on hb0
  by_cases hk : c.k = 3
  case neg =>
    have ek : (c.k != 3) = true := by simp [hk]
    have HR := hide (show (1 : Int) = r by rw [← unhide H]; simp [guardB, hk, chk])
    clear T0 hc0 hk H hL hc
    go_enter Tryz.func122, Tryz.ntmps122
    go_wp2_with fail
    go_ret
    exact ⟨ret_int (unhide HR), hb0⟩
  have ek : (c.k != 3) = false := by simp [hk]
  obtain ⟨p, hp⟩ : ∃ p, (decide (c.n.size = 0) && decide (c.m = 0)) = p := ⟨_, rfl⟩
  have F1 := fun W => isZero_q c.n c.a c.m c.mc p W (hide hp)
  have HK := hide hk
  clear hk
  go_enter Tryz.func122, Tryz.ntmps122
  go_wp2_with fail
  clear ek
  generalize w.alloc (bxC c) = W at hb0 T0 hc0
  refine (F1 _).mono ?_
  rintro e w1 ⟨rfl, hb1⟩
  have T1 := T0.on hb1
  have hc1 := hc0.on hb1
  have hw1 := bt hb0 hb1
  clear T0 hc0 hb0 hb1 F1
  cases p with
  | false =>
    have HR := hide (show (1 : Int) = r by
      rw [← unhide H, show guardB c.k c.n c.m c.h c.xs c.ys = false from by simp only [guardB, ← Bool.and_assoc (decide (c.n.size = 0)), hp]; simp]; rfl)
    clear T1 hc1 H hL hc hp
    go_wp2_with fail
    go_ret
    exact ⟨ret_int (unhide HR), hw1⟩
  | true =>
  have HZ := hide hp
  clear hp
  obtain ⟨c0, c1, c2, c3, c4, c5⟩ := T1
  obtain ⟨p, hp⟩ : ∃ p, wayB c.h = p := ⟨_, rfl⟩
  have F1 := isWay_q c.h p w1 (hide hp)
  go_wp2_with fail
  refine F1.mono ?_
  rintro e w2 ⟨rfl, hw2⟩
  subst hw2
  clear F1
  cases p with
  | false =>
    have HR := hide (show (1 : Int) = r by
      rw [← unhide H, show guardB c.k c.n c.m c.h c.xs c.ys = false from by simp [guardB, hp]]; rfl)
    clear c0 c1 c2 c3 c4 c5 hc1 H hL hc hp
    go_wp2_with fail
    go_ret
    exact ⟨ret_int (unhide HR), hw1⟩
  | true =>
  have HY := hide hp
  clear hp
  obtain ⟨p, hp⟩ : ∃ p, exprB c.xs = p := ⟨_, rfl⟩
  have F1 := echeck_x c.la c.ll c.lc c.xs (chk p) w2 hc1.x hL.x (by have := hL.l; omega) (hide (by rw [hp]))
  go_wp2_with fail
  refine F1.mono ?_
  rintro e w3 ⟨rfl, hb3⟩
  have T3 := (BC.mk c0 c1 c2 c3 c4 c5).on hb3
  have hc3 := hc1.on hb3
  have hw3 := bt hw1 hb3
  clear F1 hc1 hw1 hb3 c0 c1 c2 c3 c4 c5
  cases p with
  | false =>
    have HR := hide (show (1 : Int) = r by
      rw [← unhide H, show guardB c.k c.n c.m c.h c.xs c.ys = false from by simp [guardB, hp]]; rfl)
    clear T3 hc3 H hL hc hp
    rw [show chk false = 1 from rfl]
    go_wp2_with fail
    go_ret
    exact ⟨ret_int (unhide HR), hw3⟩
  | true =>
  have HX := hide hp
  clear hp
  rw [show chk true = 0 from rfl]
  obtain ⟨c0, c1, c2, c3, c4, c5⟩ := T3
  obtain ⟨p, hp⟩ : ∃ p, exprB c.ys = p := ⟨_, rfl⟩
  have F1 := echeck_x c.ra c.rl c.rc c.ys (chk p) w3 hc3.y hL.y (by have := hL.r; omega) (hide (by rw [hp]))
  go_wp2_with fail
  refine F1.mono ?_
  rintro e w4 ⟨rfl, hb4⟩
  have hw4 := bt hw3 hb4
  clear F1 hc3 hw3 hb4 c0 c1 c2 c3 c4 c5
  cases p with
  | false =>
    have HR := hide (show (1 : Int) = r by
      rw [← unhide H, show guardB c.k c.n c.m c.h c.xs c.ys = false from by simp [guardB, hp]]; rfl)
    clear H hL hc hp
    rw [show chk false = 1 from rfl]
    go_wp2_with fail
    go_ret
    exact ⟨ret_int (unhide HR), hw4⟩
  | true =>
  have HR := hide (show (0 : Int) = r by
    have hz := unhide HZ
    simp only [Bool.and_eq_true, decide_eq_true_eq] at hz
    rw [← unhide H, guard_iff.2 ⟨unhide HK, hz.1, hz.2, unhide HY, unhide HX, hp⟩]; rfl)
  clear H hL hc hp
  rw [show chk true = 0 from rfl]
  go_wp2_with fail
  go_ret
  exact ⟨ret_int (unhide HR), hw4⟩
end Go.Proofs.YtcjnhhbcleljmaaGreatDoor.Sb
namespace Go.Proofs.YtcjnhhbcleljmaaGreatDoor.V

/-- For each value behind the first k steps: where the part begins that left it. -/
def Firsts (l : List Oo) (k : Nat) (f : List Nat) : Prop :=
  f.length = dep l k ∧ ∀ (i : Nat) (a : Nat), f[i]? = some a → a < k ∧ dep l a = i ∧ ∀ j, a < j → j ≤ k → i + 1 ≤ dep l j
theorem firsts_zero (l : List Oo) : Firsts l 0 [] := ⟨by simp [dep_zero], fun i a h => by simp at h⟩
section
variable {l : List Oo} (h : runD 0 l = some 1)
include h
theorem firsts_push {k : Nat} {f : List Nat} (hk : k < l.length) (hf : Firsts l k f) (hp : pushO l[k] = true) : Firsts l (k + 1) (f ++ [k]) := by
  rcases dep_step h hk with ⟨_, e⟩ | ⟨hq, _⟩
  · refine ⟨by simp [hf.1, e], fun i a hi => ?_⟩
    by_cases hl : i < f.length
    · rw [List.getElem?_append_left hl] at hi
      obtain ⟨h1, h2, h3⟩ := hf.2 i a hi
      refine ⟨by omega, h2, fun j hj hjk => ?_⟩
      by_cases hjk' : j ≤ k
      · exact h3 j hj hjk'
      · have : j = k + 1 := by omega
        subst this
        have := hf.1
        omega
    · have hi' := (List.getElem?_eq_some_iff.1 hi).1
      simp at hi'
      have he : i = f.length := by omega
      subst he
      simp at hi
      subst hi
      refine ⟨by omega, hf.1.symm, fun j hj hjk => ?_⟩
      have : j = k + 1 := by omega
      subst this
      have := hf.1
      omega
  · rw [hp] at hq; cases hq
theorem firsts_take {k : Nat} {f : List Nat} (hk : k < l.length) (hf : Firsts l k f) (hp : pushO l[k] = false) : 2 ≤ f.length ∧ Firsts l (k + 1) (f.take (f.length - 1)) := by
  rcases dep_step h hk with ⟨hq, _⟩ | ⟨_, e1, e2⟩
  · rw [hp] at hq; cases hq
  · have hl := hf.1
    refine ⟨by omega, ⟨by simp; omega, fun i a hi => ?_⟩⟩
    have hi' := (List.getElem?_eq_some_iff.1 hi).1
    simp at hi'
    rw [List.getElem?_take_of_lt (by omega)] at hi
    obtain ⟨h1, h2, h3⟩ := hf.2 i a hi
    refine ⟨by omega, h2, fun j hj hjk => ?_⟩
    by_cases hjk' : j ≤ k
    · exact h3 j hj hjk'
    · have : j = k + 1 := by omega
      subst this
      omega
theorem firsts_last {e : Nat} {f : List Nat} (he : e < l.length) (hf : Firsts l (e + 1) f) : ∃ a, f[f.length - 1]? = some a ∧ 1 ≤ f.length ∧ partL l e = a := by
  have hd := dep_pos h he
  have hl := hf.1
  obtain ⟨a, ha⟩ : ∃ a, f[f.length - 1]? = some a := ⟨f[f.length - 1]'(by omega), by simp⟩
  obtain ⟨h1, h2, h3⟩ := hf.2 _ a ha
  obtain ⟨c, c1, c2, c3, c4⟩ := part_spec h he
  refine ⟨a, ha, by omega, ?_⟩
  rw [c1, part_only (l := l) c2 (show a ≤ e by omega) c3 c4 (by omega) (fun j hj hje => by have := h3 j hj (by omega); omega)]
end
/-- From a step on ahead, till one is left: one step of that. -/
theorem scan_push {l : List Oo} {need i : Nat} (hi : i < l.length) (hp : pushO l[i] = true) : scan l need (i + 1) = if need = 1 then (i : Int) else scan l (need - 1) i := by
  rw [scan, if_pos (by simp [hi, hp])]
theorem scan_op {l : List Oo} {need i : Nat} (hi : i < l.length) (hp : pushO l[i] = false) : scan l need (i + 1) = scan l (need + 1) i := by
  rw [scan, if_neg (by simp [hi, hp])]
end Go.Proofs.YtcjnhhbcleljmaaGreatDoor.V
namespace Go.Proofs.YtcjnhhbcleljmaaGreatDoor.Sb
open Go.RowKit
open V
open Ex (RowO LiesO flatO)

/-- Where a part begins; -1 where there is none. -/
def partR (l : List Oo) (e : Int) : Int := if exprB l = true ∧ 0 ≤ e ∧ e < l.length then partL l e.toNat else -1

theorem infoI : (Tryz.prog.info? 3).map (fun i => (i.zero, i.size, i.bytes)) = some (some (.int .i64 0), 1, 8) := by kernel_rfl
abbrev nums (f : List Nat) : List Value := f.map (fun (a : Nat) => Value.int .i64 (a : Int))

/-- A number of a row that the call owns. -/
theorem ownI_at {w : World} {B n cs : Nat} {s : Option Addr} {f : List Nat} (h : w.ownsRow B 3 1 (.slice s n cs) n (nums f)) {i : Nat} {x : Nat} (hx : f[i]? = some x) : ∃ g, s = some ⟨g, 0, none⟩ ∧ B ≤ g ∧ g < w.heap.size ∧ n = f.length ∧ n ≤ cs ∧ w.cell? ⟨g, i, none⟩ = some (.int .i64 x) := by
  have hn : n = f.length := by have := h.1; simp at this; omega
  have hi : i < n := by rw [hn]; exact (List.getElem?_eq_some_iff.1 hx).1
  rcases h.2 with ⟨hv, h0⟩ | ⟨g, cap, cur, hv, hB, hg, hc, _, _, ht⟩
  · omega
  · simp only [Value.slice.injEq] at hv
    obtain ⟨rfl, _, rfl⟩ := hv
    have h0 : (nums f)[i]? = some (.int .i64 x) := by rw [nums, List.getElem?_map, hx]; rfl
    rw [← ht] at h0
    rw [List.getElem?_take_of_lt (by omega), Array.getElem?_toList] at h0
    refine ⟨g, rfl, hB, (Array.getElem?_eq_some_iff.1 hg).1, hn, hc, ?_⟩
    rw [Lib.cell_of_heap hg]
    exact h0

end Go.Proofs.YtcjnhhbcleljmaaGreatDoor.Sb
namespace Go.Proofs.YtcjnhhbcleljmaaGreatDoor.Sb
open Go.RowKit
open V

theorem cell_on' {W w1 : World} {p : Addr} {v : Value} (hb : Below W.heap.size W w1) (h : W.cell? p = some v) : w1.cell? p = some v := by
  have hl : p.block < W.heap.size := by
    rcases Nat.lt_or_ge p.block W.heap.size with h' | h'
    · exact h'
    · simp [World.cell?, Array.getElem?_eq_none h'] at h
  rw [hb.cell hl]; exact h

theorem infoT : (Tryz.prog.info? 141).map (fun i => (i.zero, i.size, i.bytes)) = some (some (.agg #[.string ⟨#[]⟩, .int .i64 0, .int .i64 0, .string ⟨#[]⟩]), 4, 48) := by kernel_rfl
set_option maxHeartbeats 2000000 in
theorem twinA_some (n : ByteArray) (ad : Addr) (len cap : Nat) (ts : List Bb) (w : World) (hc : Hid (∀ (j : Nat) (u : Value), (flatB ts)[j]? = some u → w.cell? (ad.add j) = some u)) (hl : len ≤ ts.length) (hl' : ts.length ≤ len) (h20 : len ≤ 20) :
    Calls Tryz.prog 70 #[.agg #[.string n, .slice (some ad) len cap]] w fun e w' => ∃ (q : Option Addr) (c : Nat), e = .returned (.agg #[.string n, .slice q len c]) ∧ w'.ownsRow (w.heap.size + 3) 141 4 (.slice q len c) len (flatB ts) ∧ Below w.heap.size w w' := by
  obtain ⟨i0, hi, hz0, hz1, hz2⟩ := info_parts infoT
  obtain ⟨tb, -, t1, t2⟩ := three_of w (bxA n (some ad) len cap) (.cells #[.string ⟨#[]⟩, .slice none 0 0] 46) (.cells #[.string n, .slice none 0 0] 46)
  go_enter Tryz.func70, Tryz.ntmps70
  go_wp2_with (at_builtin; refine wpList_append_own_wide _ rfl _ _ 44 rfl (w.heap.size + 3) 141 i0 (.agg #[.string ⟨#[]⟩, .int .i64 0, .int .i64 0, .string ⟨#[]⟩]) 4 48 Tryz.underlying44 hi hz0 hz1 hz2 rfl (by decide) _ 0 [] rfl ⟨rfl, Or.inl ⟨rfl, rfl⟩⟩ ad len cap (flatB ts) rfl ?c0 ?c1 ?c2 ?c3 ?c4 ?c5 ?_)
  case c0 => rw [flatB_len]; omega
  case c1 =>
    intro j u hu
    exact cell_on' tb (unhide hc j u hu)
  case c2 => exact flatB_oneCell ts
  case c3 => unfold maxLen; omega
  case c4 => omega
  case c5 => simp
  intro v' w2 hown' hgrow hnil
  have u1 : w2.heap[w.heap.size + 1]? = some (.cells #[.string ⟨#[]⟩, .slice none 0 0] 46) := (hgrow.block _ (by simp) (by simp [Value.ownBlock])).trans t1
  have u2 : w2.heap[w.heap.size + 1 + 1]? = some (.cells #[.string n, .slice none 0 0] 46) := (hgrow.block _ (by simp) (by simp [Value.ownBlock])).trans t2
  have b2 : Below w.heap.size w w2 := tb.grown hgrow (by simp; omega) (by simp [Value.ownBlock])
  clear t1 t2 hnil tb hgrow
  obtain ⟨x0, x1⟩ := pair_of u1
  obtain ⟨y0, y1⟩ := pair_of u2
  have z0 : w2.frozen? ⟨w.heap.size + 1, 0, none⟩ = false := Lib.frozen_of_heap u1 0
  have z1 : w2.frozen? ⟨w.heap.size + 1, 1, none⟩ = false := Lib.frozen_of_heap u1 1
  have z2 : w2.frozen? ⟨w.heap.size + 1 + 1, 1, none⟩ = false := Lib.frozen_of_heap u2 1
  obtain ⟨ao, cp, rfl⟩ := own_slice hown'
  go_wp2_with fail
  have o1 := ownsRow_setCell_below hown' (a := ⟨w.heap.size + 1 + 1, 1, none⟩) (by show w.heap.size + 1 + 1 < w.heap.size + 3; omega) (.slice ao len cp)
  have o2 := ownsRow_setCell_below o1 (a := ⟨w.heap.size + 1, 0, none⟩) (by show w.heap.size + 1 < w.heap.size + 3; omega) (.string n)
  have o3 := ownsRow_setCell_below o2 (a := ⟨w.heap.size + 1, 1, none⟩) (by show w.heap.size + 1 < w.heap.size + 3; omega) (.slice ao len cp)
  refine bodyPost_ret (v := .agg #[.string n, .slice ao len cp]) (by simp [results, Tryz.results70, go_sem, x0, x1]) rfl ?_
  refine ⟨ao, cp, rfl, o3, ?_⟩
  exact ((b2.setCell (p := ⟨w.heap.size + 1 + 1, 1, none⟩) (by show w.heap.size ≤ w.heap.size + 1 + 1; omega) _).setCell (p := ⟨w.heap.size + 1, 0, none⟩) (by show w.heap.size ≤ w.heap.size + 1; omega) _).setCell (p := ⟨w.heap.size + 1, 1, none⟩) (by show w.heap.size ≤ w.heap.size + 1; omega) _
set_option maxHeartbeats 1000000 in
theorem twinA_none (n : ByteArray) (w : World) :
    Calls Tryz.prog 70 #[.agg #[.string n, .slice none 0 0]] w fun e w' => ∃ (q : Option Addr) (c : Nat), e = .returned (.agg #[.string n, .slice q 0 c]) ∧ w'.ownsRow (w.heap.size + 3) 141 4 (.slice q 0 c) 0 (flatB []) ∧ Below w.heap.size w w' := by
  obtain ⟨i0, hi, hz0, hz1, hz2⟩ := info_parts infoT
  go_enter Tryz.func70, Tryz.ntmps70
  go_wp2_with (at_builtin; refine wpList_append_own_none rfl _ _ 44 rfl (w.heap.size + 3) 141 i0 4 Tryz.underlying44 hi _ 0 [] rfl ⟨rfl, Or.inl ⟨rfl, rfl⟩⟩ rfl ?_)
  refine bodyPost_ret (v := .agg #[.string n, .slice none 0 0]) (by simp [results, Tryz.results70, go_sem]) rfl ?_
  exact ⟨none, 0, rfl, World.ownsRow_nil _ _ _ _, (((Below.refl _ _).alloc (Nat.le_refl _) _).alloc (by simp) _).alloc (by simp; omega) _⟩
/-- An atom's twin: the same name, the same terms, in new memory. -/
theorem twinA_any (n : ByteArray) (a : Option Addr) (len cap : Nat) (ts : List Bb) (w : World) (hA : Lies w a len cap ts) (h20 : len ≤ 20) :
    Calls Tryz.prog 70 #[.agg #[.string n, .slice a len cap]] w fun e w' => ∃ (q : Option Addr) (c : Nat), e = .returned (.agg #[.string n, .slice q len c]) ∧ w'.ownsRow w.heap.size 141 4 (.slice q len c) len (flatB ts) ∧ Below w.heap.size w w' := by
  obtain ⟨hrow, hlen, hnil, hcap⟩ := hA
  cases a with
  | none =>
    have h0 := hnil rfl
    subst h0
    have hl0 : len = 0 := by omega
    subst hl0
    have hxe : ts = [] := List.eq_nil_of_length_eq_zero hlen.symm
    subst hxe
    refine (twinA_none n w).mono ?_
    rintro e w' ⟨q, c, rfl, h1, h2⟩
    exact ⟨q, c, rfl, own_mono h1 (by omega), h2⟩
  | some ad =>
    refine (twinA_some n ad len cap ts w (hide (row_cells hrow)) (by omega) (by omega) h20).mono ?_
    rintro e w' ⟨q, c, rfl, h1, h2⟩
    exact ⟨q, c, rfl, own_mono h1 (by omega), h2⟩
end Go.Proofs.YtcjnhhbcleljmaaGreatDoor.Sb
namespace Go.Proofs.YtcjnhhbcleljmaaGreatDoor.Sb
open Go.RowKit
open V
open Ex (RowO LiesO flatO)

theorem eqT_in (x y : Bb) (w : World) : (Op.equalIn 10000 141 (.agg #[.string x.1, .int .i64 x.2.1, .int .i64 x.2.2.1, .string x.2.2.2]) (.agg #[.string y.1, .int .i64 y.2.1, .int .i64 y.2.2.1, .string y.2.2.2])).run Tryz.prog w = .ok (decide (x = y)) w := by
  have u9 := Tryz.underlying9
  have a9 := Tryz.isAgg9
  have z9 := Tryz.sizeOf9
  have a24 := Tryz.isAgg139
  have z24 := Tryz.sizeOf139
  have hS : Tryz.prog.underlying 141 = some (.struct (Tryz.prog.fieldsOf 141)) := by kernel_rfl
  have hp : Tryz.prog.stoodInHeld 141 = false := by kernel_rfl
  have hV := eqV_in
  rw [show (10000 : Nat) = 9999 + 1 from rfl, run_equalIn_agg w 9999 141 _ _ hS hp]
  simp only [Program.fieldsOf, Tryz.underlying141]
  clear hS hp
  go_simp
  simp only [toList_inj]
  obtain ⟨n, a, b, c⟩ := x
  obtain ⟨n', a', b', c'⟩ := y
  by_cases h0 : n = n' <;> by_cases h1 : a = a' <;> by_cases h2 : b = b' <;> by_cases h3 : c = c' <;> simp [h0, h1, h2, h3]
/-- Two boxes of atoms. -/
structure A2 (W : World) (b : Nat) (n : ByteArray) (a a' : Option Addr) (m mc mc' : Nat) : Prop where
  a0 : W.cell? ⟨b, 0, none⟩ = some (.string n)
  a1 : W.cell? ⟨b, 1, none⟩ = some (.slice a m mc)
  b0 : W.cell? ⟨b + 1, 0, none⟩ = some (.string n)
  b1 : W.cell? ⟨b + 1, 1, none⟩ = some (.slice a' m mc')
theorem a2_of (w : World) (n : ByteArray) (a a' : Option Addr) (m mc mc' : Nat) : A2 ((w.alloc (bxA n a m mc)).alloc (bxA n a' m mc')) w.heap.size n a a' m mc mc' ∧ Below w.heap.size w ((w.alloc (bxA n a m mc)).alloc (bxA n a' m mc')) := by
  have s1 : (w.alloc (bxA n a m mc)).heap.size = w.heap.size + 1 := by simp
  have h1 := heap_alloc_new (w.alloc (bxA n a m mc)) (bxA n a' m mc')
  rw [s1] at h1
  have h0 : ((w.alloc (bxA n a m mc)).alloc (bxA n a' m mc')).heap[w.heap.size]? = some (bxA n a m mc) := by
    rw [Lib.alloc_old _ _ _ (by omega)]; exact heap_alloc_new w (bxA n a m mc)
  obtain ⟨p0, p1⟩ := pair_of h0
  obtain ⟨q0, q1⟩ := pair_of h1
  exact ⟨⟨p0, p1, q0, q1⟩, ((Below.refl _ _).alloc (Nat.le_refl _) _).alloc (by simp) _⟩

theorem str_same (n : ByteArray) : (n.toList == n.toList) = true := by simp
set_option maxHeartbeats 4000000 in
theorem keepAtom_same (n : ByteArray) (a a' : Option Addr) (m mc mc' : Nat) (ts : List Bb) (w : World) (hA : Lies w a m mc ts) (hA' : Lies w a' m mc' ts) (hm20 : m ≤ 1000) :
    Calls Tryz.prog 81 #[.agg #[.string n, .slice a m mc], .agg #[.string n, .slice a' m mc']] w fun e w' => e = .returned (.bool true) ∧ Below w.heap.size w w' := by
  obtain ⟨T0, hb0⟩ := a2_of w n a a' m mc mc'
  have hl := hA.le
  have hl' := hA.ge
  have hr0 := hA.row.on hb0
  have hr0' := hA'.row.on hb0
  have es := str_same n
  clear hA hA'
  obtain ⟨a0, a1, b0, b1⟩ := T0
  go_enter Tryz.func81, Tryz.ntmps81
  go_wp2_with fail
  clear es
  generalize (w.alloc (bxA n a m mc)).alloc (bxA n a' m mc') = W at hb0 hr0 hr0' a0 a1 b0 b1
  go_loopw [5] (fun i wr => ∃ k : Nat, k ≤ m ∧ i = .int .i64 k ∧ (∃ d, wr = W.drewN d)) (fun i _ => m - (intOf i).toNat)
  case atStart => exact ⟨0, Nat.zero_le _, rfl, 0, rfl⟩
  case round =>
    obtain ⟨k, hk, rfl, d, rfl⟩ := hrel
    by_cases hlt : k < m
    · obtain ⟨b, o, ha, hbl, c0, c1, c2, c3⟩ := hr0.up (show k < ts.length by omega)
      obtain ⟨b', o', ha', hbl', c0', c1', c2', c3'⟩ := hr0'.up (show k < ts.length by omega)
      subst ha
      subst ha'
      have hE := eqT_in ts[k] ts[k]
      rw [decide_eq_true rfl] at hE
      generalize ts[k] = x at c0 c1 c2 c3 hE c0' c1' c2' c3'
      go_wp2_with fail
      go_quiet (fail)
      go_wp2_with fail
      go_roundw
      case rel => exact ⟨k + 1, by omega, by go_num, d + nq, by simp⟩
      case measure => simp [intOf]; omega
    · go_wp2_with fail
      go_ret
      exact ⟨rfl, below_drewN hb0 d⟩

theorem keepOps_same (a a' : Option Addr) (len cap cap' : Nat) (xs : List Oo) (w : World) (hA : LiesO w a len cap xs) (hA' : LiesO w a' len cap' xs) (h1k : len ≤ 20000) :
    Calls Tryz.prog 114 #[.slice a len cap, .slice a' len cap'] w fun e w' => e = .returned (.bool true) ∧ Below w.heap.size w w' := by
  have := keepOps_any a a' len len cap cap' xs xs w hA.row hA'.row hA.le hA.ge hA'.le hA'.ge h1k
  rw [decide_eq_true (rfl : xs = xs)] at this
  exact this
/-- Another one with the same rows, elsewhere. -/
abbrev Cd.tw (c : Cd) (a' : Option Addr) (mc' : Nat) (la' : Option Addr) (lc' : Nat) (ra' : Option Addr) (rc' : Nat) : Cd := ⟨c.k, c.n, a', c.m, mc', c.ts, c.h, la', c.ll, lc', c.xs, ra', c.rl, rc', c.ys⟩
/-- Two boxes of conditions. -/
theorem c2_of (w : World) (c d : Cd) : BC ((w.alloc (bxC c)).alloc (bxC d)) w.heap.size c ∧ BC ((w.alloc (bxC c)).alloc (bxC d)) (w.heap.size + 1) d ∧ Below w.heap.size w ((w.alloc (bxC c)).alloc (bxC d)) := by
  have s1 : (w.alloc (bxC c)).heap.size = w.heap.size + 1 := by simp
  have h1 := heap_alloc_new (w.alloc (bxC c)) (bxC d)
  rw [s1] at h1
  have h0 : ((w.alloc (bxC c)).alloc (bxC d)).heap[w.heap.size]? = some (bxC c) := by
    rw [Lib.alloc_old _ _ _ (by omega)]; exact heap_alloc_new w (bxC c)
  exact ⟨bc_of h0, bc_of h1, ((Below.refl _ _).alloc (Nat.le_refl _) _).alloc (by simp) _⟩
theorem int_same (k : Int) : (k == k) = true := by simp

set_option maxHeartbeats 4000000 in
theorem keepCond_same (c : Cd) (a' : Option Addr) (mc' : Nat) (la' : Option Addr) (lc' : Nat) (ra' : Option Addr) (rc' : Nat) (w : World) (hc : c.In w) (hd : (c.tw a' mc' la' lc' ra' rc').In w) (hL : c.Light) :
    Calls Tryz.prog 113 #[.agg #[.int .i64 c.k, .string c.n, .slice c.a c.m c.mc, .int .i64 c.h, .slice c.la c.ll c.lc, .slice c.ra c.rl c.rc], .agg #[.int .i64 c.k, .string c.n, .slice a' c.m mc', .int .i64 c.h, .slice la' c.ll lc', .slice ra' c.rl rc']] w fun e w' => e = .returned (.bool true) ∧ Below w.heap.size w w' := by
  obtain ⟨T0, S0, hw0⟩ := c2_of w c (c.tw a' mc' la' lc' ra' rc')
  have hc0 := hc.on hw0
  have hd0 := hd.on hw0
  have ek := int_same c.k
  have eh := int_same c.h
  clear hc hd
  obtain ⟨c0, c1, c2, c3, c4, c5⟩ := T0
  obtain ⟨d0, d1, d2, d3, d4, d5⟩ := S0
  go_enter Tryz.func113, Tryz.ntmps113
  go_wp2_with fail
  refine (keepAtom_same c.n c.a a' c.m c.mc mc' c.ts _ hc0.t hd0.t (by have := hL.m; omega)).mono ?_
  rintro e w1 ⟨rfl, hb1⟩
  have T1 := (BC.mk (c := c) c0 c1 c2 c3 c4 c5).on hb1
  have S1 := (BC.mk (c := c.tw a' mc' la' lc' ra' rc') d0 d1 d2 d3 d4 d5).on hb1
  have hc1 := hc0.on hb1
  have hd1 := hd0.on hb1
  have hw1 := bt hw0 hb1
  clear hc0 hd0 hw0 hb1 c0 c1 c2 c3 c4 c5 d0 d1 d2 d3 d4 d5
  obtain ⟨c0, c1, c2, c3, c4, c5⟩ := T1
  obtain ⟨d0, d1, d2, d3, d4, d5⟩ := S1
  go_wp2_with fail
  refine (keepOps_same c.la la' c.ll c.lc lc' c.xs _ hc1.x hd1.x (by have := hL.l; omega)).mono ?_
  rintro e w2 ⟨rfl, hb2⟩
  have T2 := (BC.mk (c := c) c0 c1 c2 c3 c4 c5).on hb2
  have S2 := (BC.mk (c := c.tw a' mc' la' lc' ra' rc') d0 d1 d2 d3 d4 d5).on hb2
  have hc2 := hc1.on hb2
  have hd2 := hd1.on hb2
  have hw2 := bt hw1 hb2
  clear hc1 hd1 hw1 hb2 c0 c1 c2 c3 c4 c5 d0 d1 d2 d3 d4 d5
  obtain ⟨c0, c1, c2, c3, c4, c5⟩ := T2
  obtain ⟨d0, d1, d2, d3, d4, d5⟩ := S2
  go_wp2_with fail
  refine (keepOps_same c.ra ra' c.rl c.rc rc' c.ys _ hc2.y hd2.y (by have := hL.r; omega)).mono ?_
  rintro e w3 ⟨rfl, hb3⟩
  have T3 := (BC.mk (c := c) c0 c1 c2 c3 c4 c5).on hb3
  have S3 := (BC.mk (c := c.tw a' mc' la' lc' ra' rc') d0 d1 d2 d3 d4 d5).on hb3
  have hc3 := hc2.on hb3
  have hd3 := hd2.on hb3
  have hw3 := bt hw2 hb3
  clear hc2 hd2 hw2 hb3 c0 c1 c2 c3 c4 c5 d0 d1 d2 d3 d4 d5
  clear T3 S3 hc3 hd3 ek eh
  go_wp2_with fail
  go_ret
  exact ⟨rfl, hw3⟩
end Go.Proofs.YtcjnhhbcleljmaaGreatDoor.Sb
namespace Go.Proofs.YtcjnhhbcleljmaaGreatDoor.Sb
open Go.RowKit
open V

theorem listB_ne {xs ys : List Bb} {k : Nat} (hx : k < xs.length) (hy : k < ys.length) (h : xs[k] ≠ ys[k]) : xs ≠ ys := by
  intro e
  subst e
  exact h rfl
theorem takeB_same {xs ys : List Bb} {k : Nat} (hx : k < xs.length) (hy : k < ys.length) (h : xs[k] = ys[k]) (hp : xs.take k = ys.take k) : xs.take (k + 1) = ys.take (k + 1) := by
  rw [List.take_succ_eq_append_getElem hx, List.take_succ_eq_append_getElem hy, hp, h]
/-- Two boxes of any two atoms. -/
structure A3 (W : World) (b : Nat) (n n' : ByteArray) (a a' : Option Addr) (m m' mc mc' : Nat) : Prop where
  a0 : W.cell? ⟨b, 0, none⟩ = some (.string n)
  a1 : W.cell? ⟨b, 1, none⟩ = some (.slice a m mc)
  b0 : W.cell? ⟨b + 1, 0, none⟩ = some (.string n')
  b1 : W.cell? ⟨b + 1, 1, none⟩ = some (.slice a' m' mc')
theorem a3_of (w : World) (n n' : ByteArray) (a a' : Option Addr) (m m' mc mc' : Nat) : A3 ((w.alloc (bxA n a m mc)).alloc (bxA n' a' m' mc')) w.heap.size n n' a a' m m' mc mc' ∧ Below w.heap.size w ((w.alloc (bxA n a m mc)).alloc (bxA n' a' m' mc')) := by
  have s1 : (w.alloc (bxA n a m mc)).heap.size = w.heap.size + 1 := by simp
  have h1 := heap_alloc_new (w.alloc (bxA n a m mc)) (bxA n' a' m' mc')
  rw [s1] at h1
  have h0 : ((w.alloc (bxA n a m mc)).alloc (bxA n' a' m' mc')).heap[w.heap.size]? = some (bxA n a m mc) := by
    rw [Lib.alloc_old _ _ _ (by omega)]; exact heap_alloc_new w (bxA n a m mc)
  obtain ⟨p0, p1⟩ := pair_of h0
  obtain ⟨q0, q1⟩ := pair_of h1
  exact ⟨⟨p0, p1, q0, q1⟩, ((Below.refl _ _).alloc (Nat.le_refl _) _).alloc (by simp) _⟩
set_option maxHeartbeats 4000000 in
theorem keepAtom_any (n n' : ByteArray) (a a' : Option Addr) (m m' mc mc' : Nat) (ts ts' : List Bb) (w : World) (hA : Lies w a m mc ts) (hA' : Lies w a' m' mc' ts') (hm20 : m ≤ 1000) :
    Calls Tryz.prog 81 #[.agg #[.string n, .slice a m mc], .agg #[.string n', .slice a' m' mc']] w fun e w' => e = .returned (.bool (decide (n = n' ∧ ts = ts'))) ∧ Below w.heap.size w w' := by
  obtain ⟨T0, hb0⟩ := a3_of w n n' a a' m m' mc mc'
  have hl := hA.le
  have hl' := hA'.le
  have hg := hA.ge
  have hg' := hA'.ge
  have hr0 := hA.row.on hb0
  have hr0' := hA'.row.on hb0
  clear hA hA'
  obtain ⟨a0, a1, b0, b1⟩ := T0
  by_cases hn : n = n'
  case neg =>
    have es : (n.toList == n'.toList) = false := by
      rw [beq_eq_false_iff_ne]
      exact fun e => hn (toList_inj.1 e)
    have HN : Hid (decide (n = n' ∧ ts = ts') = false) := hide (decide_eq_false (fun h => hn h.1))
    clear hn
    go_enter Tryz.func81, Tryz.ntmps81
    go_wp2_with fail
    clear es
    generalize (w.alloc (bxA n a m mc)).alloc (bxA n' a' m' mc') = W at hb0 hr0 hr0' a0 a1 b0 b1
    go_ret
    exact ⟨ret_bool' (unhide HN).symm, hb0⟩
  subst hn
  have es := str_same n
  rw [show decide (n = n ∧ ts = ts') = decide (ts = ts') from by simp]
  by_cases hmm : m = m'
  case neg =>
    have HN : Hid (decide (ts = ts') = false) := hide (decide_eq_false (fun e => by subst e; omega))
    have el : ((m : Int) != m') = true := by simp; omega
    clear hmm
    go_enter Tryz.func81, Tryz.ntmps81
    go_wp2_with fail
    clear es
    generalize (w.alloc (bxA n a m mc)).alloc (bxA n a' m' mc') = W at hb0 hr0 hr0' a0 a1 b0 b1
    go_ret
    exact ⟨ret_bool' (unhide HN).symm, hb0⟩
  subst hmm
  have el : ((m : Int) != m) = false := by simp
  go_enter Tryz.func81, Tryz.ntmps81
  go_wp2_with fail
  clear es
  generalize (w.alloc (bxA n a m mc)).alloc (bxA n a' m mc') = W at hb0 hr0 hr0' a0 a1 b0 b1
  go_loopw [5] (fun i wr => ∃ k : Nat, k ≤ m ∧ i = .int .i64 k ∧ Hid (ts.take k = ts'.take k) ∧ (∃ d, wr = W.drewN d)) (fun i _ => m - (intOf i).toNat)
  case atStart => exact ⟨0, Nat.zero_le _, rfl, hide (by simp), 0, rfl⟩
  case round =>
    obtain ⟨k, hk, rfl, HK, d, rfl⟩ := hrel
    by_cases hlt : k < m
    · obtain ⟨b, o, ha, hbl, c0, c1, c2, c3⟩ := hr0.up (show k < ts.length by omega)
      obtain ⟨b', o', ha', hbl', c0', c1', c2', c3'⟩ := hr0'.up (show k < ts'.length by omega)
      subst ha
      subst ha'
      have hE := eqT_in ts[k] ts'[k]
      by_cases heq : ts[k] = ts'[k]
      · have HN := hide (takeB_same (show k < ts.length by omega) (show k < ts'.length by omega) heq (unhide HK))
        rw [decide_eq_true heq] at hE
        clear heq
        generalize ts[k] = x at c0 c1 c2 c3 hE
        generalize ts'[k] = y at c0' c1' c2' c3' hE
        go_wp2_with fail
        go_quiet (fail)
        go_wp2_with fail
        go_roundw
        case rel => exact ⟨k + 1, by omega, by go_num, HN, d + nq, by simp⟩
        case measure => simp [intOf]; omega
      · have HN : Hid (decide (ts = ts') = false) := hide (decide_eq_false (listB_ne (show k < ts.length by omega) (show k < ts'.length by omega) heq))
        rw [decide_eq_false heq] at hE
        clear heq
        generalize ts[k] = x at c0 c1 c2 c3 hE
        generalize ts'[k] = y at c0' c1' c2' c3' hE
        go_wp2_with fail
        go_quiet (fail)
        go_wp2_with fail
        go_ret
        exact ⟨ret_bool' (unhide HN).symm, below_drewN (below_drewN hb0 d) nq⟩
    · have HN : Hid (decide (ts = ts') = true) := by
        have h := unhide HK
        rw [List.take_of_length_le (by omega), List.take_of_length_le (by omega)] at h
        exact hide (decide_eq_true h)
      go_wp2_with fail
      go_ret
      exact ⟨ret_bool' (unhide HN).symm, below_drewN hb0 d⟩
end Go.Proofs.YtcjnhhbcleljmaaGreatDoor.Sb
