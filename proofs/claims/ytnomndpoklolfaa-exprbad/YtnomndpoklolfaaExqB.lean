/- append to a row of steps that the call owns, beside other rows of its own. -/
import Derived.Test.YtnomndpoklolfaaExpK
import Derived.Maps.AppendAt
namespace Go.Proofs.Ytnomndpoklolfaa.Sb
open Go.RowKit
open V
open Ex (flatO flatO_len flatO_app flatO_oneCell LiesO liesO_own)

def OwnO (w : World) (B : Nat) (v : Value) (xs : List Oo) : Prop := w.ownsRow B 44 5 v xs.length (flatO xs)
def OwnI (w : World) (B : Nat) (v : Value) (zs : List Int) : Prop := w.ownsRow B 3 1 v zs.length (zs.map (Value.int .i64))
/-- No block of the one's is the other's. -/
def Apart (a b : Value) : Prop := ∀ k, a.ownBlock = some k → b.ownBlock = some k → False
theorem ownO_nil (w : World) (B : Nat) : OwnO w B (.slice none 0 0) [] := World.ownsRow_nil _ _ _ _
theorem ownI_nil (w : World) (B : Nat) : OwnI w B (.slice none 0 0) [] := World.ownsRow_nil _ _ _ _
theorem apart_none (v : Value) : Apart (.slice none 0 0) v := fun k h => by cases h
theorem Apart.flip {a b : Value} (h : Apart a b) : Apart b a := fun k h1 h2 => h k h2 h1
theorem Apart.ne {a b : Value} (h : Apart a b) : a.ownBlock = none ∨ a.ownBlock ≠ b.ownBlock := by
  cases ha : a.ownBlock with
  | none => exact Or.inl rfl
  | some k => exact Or.inr (fun e => h k ha e.symm)
theorem ownO_alloc {w : World} {B : Nat} {v : Value} {xs : List Oo} (h : OwnO w B v xs) (o : Obj) : OwnO (w.alloc o) B v xs := World.ownsRow.alloc h o
theorem ownI_alloc {w : World} {B : Nat} {v : Value} {zs : List Int} (h : OwnI w B v zs) (o : Obj) : OwnI (w.alloc o) B v zs := World.ownsRow.alloc h o
theorem ownO_beside {w w' : World} {B : Nat} {v a : Value} {xs : List Oo} (h : OwnO w B v xs) (hg : w.grownBy w' a.ownBlock) (ha : Apart v a) : OwnO w' B v xs := World.ownsRow.kept h hg ha.ne
theorem ownI_beside {w w' : World} {B : Nat} {v a : Value} {zs : List Int} (h : OwnI w B v zs) (hg : w.grownBy w' a.ownBlock) (ha : Apart v a) : OwnI w' B v zs := World.ownsRow.kept h hg ha.ne
theorem ownO_lt {w : World} {B : Nat} {v : Value} {xs : List Oo} (h : OwnO w B v xs) : ∀ m, v.ownBlock = some m → B ≤ m := fun m hm => (World.ownsRow.lt h m hm).1
theorem ownI_lt {w : World} {B : Nat} {v : Value} {zs : List Int} (h : OwnI w B v zs) : ∀ m, v.ownBlock = some m → B ≤ m := fun m hm => (World.ownsRow.lt h m hm).1
theorem apart_to {s : Nat} {a a' v : Value} (h : Apart a v) (h5 : a'.ownBlock = a.ownBlock ∨ a'.ownBlock = some s) (hv : ∀ m, v.ownBlock = some m → m < s) : Apart a' v := by
  intro k h1 h2
  rcases h5 with e | e
  · exact h k (e.symm.trans h1) h2
  · have := hv k h2
    rw [e] at h1
    cases h1
    omega
theorem ownO_below {w : World} {B : Nat} {v : Value} {xs : List Oo} (h : OwnO w B v xs) : ∀ m, v.ownBlock = some m → m < w.heap.size := fun m hm => (World.ownsRow.lt h m hm).2
theorem ownO_less {w : World} {B s : Nat} {v : Value} {xs : List Oo} (h : OwnO w B v xs) (hs : w.heap.size = s) : ∀ m, v.ownBlock = some m → m < s := fun m hm => by rw [← hs]; exact (World.ownsRow.lt h m hm).2
theorem ownI_less {w : World} {B s : Nat} {v : Value} {zs : List Int} (h : OwnI w B v zs) (hs : w.heap.size = s) : ∀ m, v.ownBlock = some m → m < s := fun m hm => by rw [← hs]; exact (World.ownsRow.lt h m hm).2
theorem ownI_below {w : World} {B : Nat} {v : Value} {zs : List Int} (h : OwnI w B v zs) : ∀ m, v.ownBlock = some m → m < w.heap.size := fun m hm => (World.ownsRow.lt h m hm).2
/-- A block of neither stays. -/
theorem heap_beside {w w' : World} {a : Value} {b : Nat} {o : Obj} (h : w.heap[b]? = some o) (hg : w.grownBy w' a.ownBlock) (hb : ∀ m, a.ownBlock = some m → m ≠ b) : w'.heap[b]? = some o := by
  rw [hg.block b (Array.getElem?_eq_some_iff.1 h).1 (fun e => hb b e.symm rfl)]
  exact h
theorem heap_alloc {w : World} {b : Nat} {o : Obj} (h : w.heap[b]? = some o) (p : Obj) : (w.alloc p).heap[b]? = some o := (Lib.alloc_old _ _ _ (Array.getElem?_eq_some_iff.1 h).1).trans h
/-- The cells of one step in a block of its own. -/
theorem cells_q {W : World} {b : Nat} {x : Oo} (h : W.heap[b]? = some (bxO x)) : ∀ (j : Nat) (u : Value), (flatO [x])[j]? = some u → W.cell? ((⟨b, 0, none⟩ : Addr).add j) = some u := by
  intro j u hu
  rw [WideShapes.add_plain, Lib.cell_of_heap h]
  match j, hu with
  | 0, hu => simpa [flatO] using hu
  | 1, hu => simpa [flatO] using hu
  | 2, hu => simpa [flatO] using hu
  | 3, hu => simpa [flatO] using hu
  | 4, hu => simpa [flatO] using hu
  | j + 5, hu => simp [flatO] at hu

theorem app_op {w : World} {ops : Array Oper} {rest : List Oper} {o : Oper} {a : Act} {Q : Exit → Act → World → Prop} (hgd : o.guard = none) (s x : Operand)
    (ho : o.op = .call { callee := .builtin .append, args := #[s, x], argTypes := #[22, 22] }) (B : Nat) (v : Value) (xs : List Oo) (y : Oo) (nb : Nat)
    (hs : a.eval s = v) (hx : a.eval x = .slice (some ⟨nb, 0, none⟩) 1 1) (hown : OwnO w B v xs) (hnew : Hid (w.heap[nb]? = some (bxO y))) (hlen : xs.length ≤ 100) (hB : B ≤ w.heap.size)
    (h : ∀ v' w', OwnO w' B v' (xs ++ [y]) → w.grownBy w' v.ownBlock → (v'.ownBlock = v.ownBlock ∨ v'.ownBlock = some w.heap.size) → wpList Try.prog ops Q rest (a.put o.dst v') w') :
    wpList Try.prog ops Q (o :: rest) a w := by
  obtain ⟨i0, hi, hz0, hz1, hz2⟩ := info_parts infoO
  refine wpList_append_own_at w hgd s x 22 ho B 44 i0 (.agg #[.int .i64 0, .string ⟨#[]⟩, .int .i64 0, .int .i64 0, .string ⟨#[]⟩]) 5 56 Try.underlying22 hi hz0 hz1 hz2 rfl (by decide) v xs.length (flatO xs) hs hown ⟨nb, 0, none⟩ 1 1 (flatO [y]) hx rfl (cells_q (unhide hnew)) (flatO_oneCell [y]) (by unfold maxLen; omega) (by omega) hB ?_
  intro v' w' h1 h2 _ h4
  refine h v' w' ?_ h2 h4
  unfold OwnO
  rw [flatO_app, List.length_append]
  exact h1
theorem infoI : (Try.prog.info? 3).map (fun i => (i.zero, i.size, i.bytes)) = some (some (.int .i64 0), 1, 8) := by kernel_rfl
theorem app_int {w : World} {ops : Array Oper} {rest : List Oper} {o : Oper} {a : Act} {Q : Exit → Act → World → Prop} (hgd : o.guard = none) (s x : Operand)
    (ho : o.op = .call { callee := .builtin .append, args := #[s, x], argTypes := #[51, 51] }) (B : Nat) (v : Value) (zs : List Int) (y : Int) (nb : Nat)
    (hs : a.eval s = v) (hx : a.eval x = .slice (some ⟨nb, 0, none⟩) 1 1) (hown : OwnI w B v zs) (hnew : Hid (w.heap[nb]? = some (.cells #[.int .i64 y] 3))) (hlen : zs.length ≤ 100) (hB : B ≤ w.heap.size)
    (h : ∀ v' w', OwnI w' B v' (zs ++ [y]) → w.grownBy w' v.ownBlock → (v'.ownBlock = v.ownBlock ∨ v'.ownBlock = some w.heap.size) → wpList Try.prog ops Q rest (a.put o.dst v') w') :
    wpList Try.prog ops Q (o :: rest) a w := by
  obtain ⟨i0, hi, hz0, hz1, hz2⟩ := info_parts infoI
  refine wpList_append_own_at w hgd s x 51 ho B 3 i0 (.int .i64 0) 1 8 Try.underlying51 hi hz0 hz1 hz2 rfl (by decide) v zs.length (zs.map (Value.int .i64)) hs hown ⟨nb, 0, none⟩ 1 1 [.int .i64 y] hx rfl (fun j u hu => ?_) (fun u hu => ?_) (by unfold maxLen; omega) (by omega) hB ?_
  · rw [WideShapes.add_plain, Lib.cell_of_heap (unhide hnew)]
    match j, hu with
    | 0, hu => simpa using hu
    | j + 1, hu => simp at hu
  · rw [List.mem_singleton.1 hu]; rfl
  · intro v' w' h1 h2 _ h4
    refine h v' w' ?_ h2 h4
    unfold OwnI
    rw [List.map_append, List.length_append]
    exact h1
/-- The numbers of a row that the call owns. -/
theorem own_ints {w : World} {B : Nat} {v : Value} {zs : List Int} (h : OwnI w B v zs) (hz : zs ≠ []) : ∃ g c, v = .slice (some ⟨g, 0, none⟩) zs.length c ∧ ∀ j, j < zs.length → w.cell? ⟨g, 0 + j, none⟩ = some (.int .i64 (zs.getD j 0)) := by
  rcases h.2 with ⟨hv, h0⟩ | ⟨g, cap, cur, hv, hB, hg, hc, _, _, ht⟩
  · exact absurd (List.eq_nil_of_length_eq_zero h0) hz
  · refine ⟨g, cap, hv, fun j hj => ?_⟩
    have h0 : (zs.map (Value.int .i64))[j]? = some (.int .i64 (zs.getD j 0)) := by
      simp [List.getD, List.getElem?_eq_getElem hj]
    rw [← ht, List.getElem?_take_of_lt (by omega), Array.getElem?_toList] at h0
    rw [Lib.cell_of_heap hg, Nat.zero_add]
    exact h0
theorem own_ops {w : World} {B : Nat} {v : Value} {xs : List Oo} (h : OwnO w B v xs) : ∃ a n c, v = .slice a n c ∧ LiesO w a n c xs := by
  obtain ⟨a, c, rfl⟩ := own_slice h
  exact ⟨a, _, c, rfl, liesO_own h⟩
end Go.Proofs.Ytnomndpoklolfaa.Sb
