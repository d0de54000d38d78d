/- What lex.Join answers. -/
import Derived.Test.YtaapeleoiclplaaDoorLexH
import Derived.Lib.AppendStr
namespace Go.Proofs.YtaapeleoiclplaaDoor
open Go.RowKit
open V

set_option maxHeartbeats 2000000 in
set_option maxRecDepth 100000 in
theorem writeStr_any (B b : Nat) (bs : List Value) (s : ByteArray) (w : World) (h : Lib.IsBuilder 51 5 B b bs w) (hlen : bs.length + s.size ≤ 140737488355328) (hBw : B ≤ w.heap.size) :
    Calls Tryd.prog 22 #[.pointer (some ⟨b, 0, none⟩), .string s] w fun e w' => e = .returned (.tuple #[.int .i64 s.size, .nilIface]) ∧ (Lib.BuilderAt 51 5 B b (.pointer (some ⟨b, 0, none⟩)) (bs ++ Lib.strCells s) w' ∧ Below B w w') := by
  obtain ⟨i0, hi, hz0, hz1, hz2⟩ := info_parts infoByte
  go_enter Tryd.func22, Tryd.ntmps22
  go_wp2_with (go_at_call 46; refine (copyCheck_any B b bs _ h).mono ?_)
  rintro e w1 ⟨rfl, h1, hb1⟩
  obtain ⟨hB, v, hbk, hown, hne⟩ := h1
  have c0 : w1.cell? ⟨b, 0, none⟩ = some (.pointer (some ⟨b, 0, none⟩)) := by rw [Lib.cell_of_heap hbk]; rfl
  have c1 : w1.cell? ⟨b, 1, none⟩ = some v := by rw [Lib.cell_of_heap hbk]; rfl
  go_wp2_with (at_builtin; refine Lib.wpList_append_own_string _ rfl _ _ 49 9 rfl B 5 i0 Tryd.underlying49 Tryd.underlying9 hi hz0 hz1 hz2 _ _ _ rfl hown s rfl ?c3 ?c4 ?c5 ?_)
  case c3 => unfold maxLen; omega
  case c4 => omega
  case c5 => have := hb1.size; omega
  intro v' w2 hown' hgrow _
  have hlt : b < w1.heap.size := by
    rcases Nat.lt_or_ge b w1.heap.size with h' | h'
    · exact h'
    · simp [Array.getElem?_eq_none h'] at hbk
  have hb2 : w2.heap[b]? = some (.cells #[.pointer (some ⟨b, 0, none⟩), v] 51 (0, 0)) := by
    rw [hgrow.block b hlt (fun e => hne e.symm)]
    exact hbk
  have d0 : w2.cell? ⟨b, 0, none⟩ = some (.pointer (some ⟨b, 0, none⟩)) := by rw [Lib.cell_of_heap hb2]; rfl
  have d1 : w2.cell? ⟨b, 1, none⟩ = some v := by rw [Lib.cell_of_heap hb2]; rfl
  have f1 : w2.frozen? ⟨b, 1, none⟩ = false := Lib.frozen_of_heap hb2 1
  obtain ⟨ao, n', cap, rfl⟩ : ∃ ao n' cap, v' = .slice ao n' cap := by
    rcases hown'.2 with ⟨hv, _⟩ | ⟨g, cap, cur, hv, _⟩
    · exact ⟨_, _, _, hv⟩
    · exact ⟨_, _, _, hv⟩
  go_wp2
  go_ret2
  refine ⟨rfl, ?_, ?_⟩
  · exact Lib.BuilderAt.put (T := 51) (e := 5) hB hb2 (bs' := bs ++ Lib.strCells s) (by simpa [Lib.strCells_length] using hown') (by decide)
  · exact (hb1.grown hgrow (by have := hb1.size; omega) (fun k hk => (hown.lt k hk).1)).setCell (p := ⟨b, 1, none⟩) hB _

/-- WriteString over bytes: the builder holds the text's bytes besides. -/
theorem writeStr_at (B b : Nat) (l : List UInt8) (s : ByteArray) (w : World) (h : Lib.IsBuilder 51 5 B b (Lib.byteCells l) w) (hlen : l.length + s.size ≤ 140737488355328) (hBw : B ≤ w.heap.size) :
    Calls Tryd.prog 22 #[.pointer (some ⟨b, 0, none⟩), .string s] w fun e w' => e = .returned (.tuple #[.int .i64 s.size, .nilIface]) ∧ Lib.IsBuilder 51 5 B b (Lib.byteCells (l ++ s.data.toList)) w' ∧ Below B w w' ∧ B ≤ w'.heap.size := by
  refine (writeStr_any B b (Lib.byteCells l) s w h (by simpa [Lib.byteCells] using hlen) hBw).mono ?_
  rintro e w' ⟨rfl, h1, hb⟩
  refine ⟨rfl, Or.inr ?_, hb, by have := hb.size; omega⟩
  rw [Lib.byteCells_append]; exact h1

theorem builderAt_on {w w' : World} {T e : TypeId} {B b : Nat} {p : Value} {bs : List Value} (h : Lib.BuilderAt T e B b p bs w) (hb : Below w.heap.size w w') : Lib.BuilderAt T e B b p bs w' := by
  obtain ⟨h0, v, h1, h2, h3⟩ := h
  exact ⟨h0, v, by rw [hb.block b (Array.getElem?_eq_some_iff.1 h1).1]; exact h1, own_on h2 hb, h3⟩
theorem builder_on {w w' : World} {T e : TypeId} {B b : Nat} {bs : List Value} (h : Lib.IsBuilder T e B b bs w) (hb : Below w.heap.size w w') : Lib.IsBuilder T e B b bs w' := by
  rcases h with h | h
  · exact Or.inl (builderAt_on h hb)
  · exact Or.inr (builderAt_on h hb)


theorem copyCheck_kept (B b : Nat) (bs : List Value) (w : World) (h : Lib.IsBuilder 51 5 B b bs w) :
    Calls Tryd.prog 46 #[.pointer (some ⟨b, 0, none⟩)] w fun e w' => e = .returned (.tuple #[]) ∧ (Lib.BuilderAt 51 5 B b (.pointer (some ⟨b, 0, none⟩)) bs w' ∧ Below B w w' ∧ (∀ g, g ≠ b → w'.heap[g]? = w.heap[g]?) ∧ w'.cell? ⟨b, 1, none⟩ = w.cell? ⟨b, 1, none⟩) := by
  rcases h with h | h
  · refine (copyCheck_fresh b w h.cell0 h.shape h.frozen0).mono ?_
    rintro e w' ⟨rfl, rfl⟩
    exact ⟨rfl, h.used _, (Below.refl B w).setCell (p := ⟨b, 0, none⟩) h.1 _, fun g hg => Below.heap_setCell w ⟨b, 0, none⟩ _ g hg, World.cell?_setCell_other _ _ _ _ (by simp)⟩
  · refine (copyCheck_used b w h.cell0).mono ?_
    rintro e w' ⟨rfl, rfl⟩
    exact ⟨rfl, h, Below.refl B _, fun _ _ => rfl, rfl⟩

set_option maxHeartbeats 2000000 in
set_option maxRecDepth 100000 in
theorem writeByte_box (B b : Nat) (bs : List Value) (c : Int) (w : World) (gg : Nat) (ob : Obj) (h : Lib.IsBuilder 51 5 B b bs w) (hg : w.heap[gg]? = some ob) (hgb : gg ≠ b) (hgv : ∀ v, w.cell? ⟨b, 1, none⟩ = some v → v.ownBlock ≠ some gg) (hlen : bs.length + 1 ≤ 140737488355328) (hBw : B ≤ w.heap.size) :
    Calls Tryd.prog 21 #[.pointer (some ⟨b, 0, none⟩), .int .u8 c] w fun e w' => e = .returned .nilIface ∧ (Lib.BuilderAt 51 5 B b (.pointer (some ⟨b, 0, none⟩)) (bs ++ [.int .u8 c]) w' ∧ Below B w w' ∧ w'.heap[gg]? = some ob) := by
  obtain ⟨i0, hi, hz0, hz1, hz2⟩ := info_parts infoByte
  go_enter Tryd.func21, Tryd.ntmps21
  go_wp2_with (go_at_call 46; refine (copyCheck_kept B b bs _ h).mono ?_)
  rintro e w1 ⟨rfl, h1, hb1, hk1', hc1'⟩
  have hk1 := hide hk1'
  have hc1 := hide hc1'
  clear hk1' hc1'
  obtain ⟨hB, v, hbk, hown, hne⟩ := h1
  have c0 : w1.cell? ⟨b, 0, none⟩ = some (.pointer (some ⟨b, 0, none⟩)) := by rw [Lib.cell_of_heap hbk]; rfl
  have c1 : w1.cell? ⟨b, 1, none⟩ = some v := by rw [Lib.cell_of_heap hbk]; rfl
  go_wp2_with (at_builtin; refine wpList_append_own _ rfl _ _ 49 rfl B 5 i0 (.int .u8 0) 1 1 Tryd.underlying49 hi hz0 hz1 hz2 rfl (by decide) _ _ _ rfl (hown.alloc _) ⟨w1.heap.size, 0, none⟩ 1 1 [.int .u8 c] rfl rfl ?c1 ?c2 ?c3 ?c4 ?c5 ?_)
  case c1 =>
    intro j u hj
    match j, hj with
    | 0, hj => simp at hj; subst hj; simp [Addr.add]
  case c2 => intro u hu; simp at hu; subst hu; rfl
  case c3 => unfold maxLen; omega
  case c4 => omega
  case c5 => have := hb1.size; simp; omega
  intro v' w2 hown' hgrow _
  have hlt : b < w1.heap.size := by
    rcases Nat.lt_or_ge b w1.heap.size with h' | h'
    · exact h'
    · simp [Array.getElem?_eq_none h'] at hbk
  have hb2 : w2.heap[b]? = some (.cells #[.pointer (some ⟨b, 0, none⟩), v] 51 (0, 0)) := by
    rw [hgrow.block b (by simp; omega) (fun e => hne e.symm), Lib.alloc_old w1 _ b hlt]
    exact hbk
  have d0 : w2.cell? ⟨b, 0, none⟩ = some (.pointer (some ⟨b, 0, none⟩)) := by rw [Lib.cell_of_heap hb2]; rfl
  have d1 : w2.cell? ⟨b, 1, none⟩ = some v := by rw [Lib.cell_of_heap hb2]; rfl
  have f1 : w2.frozen? ⟨b, 1, none⟩ = false := Lib.frozen_of_heap hb2 1
  obtain ⟨g, cap, rfl⟩ : ∃ g cap, v' = .slice (some ⟨g, 0, none⟩) (bs.length + 1) cap := by
    rcases hown'.2 with ⟨_, h0⟩ | ⟨g, cap, cur, hv, _⟩
    · omega
    · exact ⟨g, cap, hv⟩
  go_wp2
  go_ret
  have hg1 : w1.heap[gg]? = some ob := by rw [unhide hk1 gg hgb]; exact hg
  have hglt : gg < w1.heap.size := by
    rcases Nat.lt_or_ge gg w1.heap.size with h' | h'
    · exact h'
    · simp [Array.getElem?_eq_none h'] at hg1
  have hvg : v.ownBlock ≠ some gg := hgv v ((unhide hc1).symm.trans c1)
  refine ⟨rfl, ?_, ?_, ?_⟩
  · exact Lib.BuilderAt.put (T := 51) (e := 5) hB hb2 (bs' := bs ++ [.int .u8 c]) (by simpa using hown') (by decide)
  · exact ((hb1.alloc (by have := hb1.size; omega) _).grown hgrow (by have := hb1.size; simp; omega) (fun k hk => (hown.lt k hk).1)).setCell (p := ⟨b, 1, none⟩) hB _
  · rw [Below.heap_setCell _ ⟨b, 1, none⟩ _ gg hgb, hgrow.block gg (by simp; omega) (fun e => hvg e.symm), Lib.alloc_old w1 _ gg hglt]
    exact hg1

/-- WriteByte, a box just laid beside it. -/
theorem writeByte_new (B b : Nat) (l : List UInt8) (c : UInt8) (n : Int) (hn : n = c.toNat) (w : World) (ob : Obj) (h : Lib.IsBuilder 51 5 B b (Lib.byteCells l) w) (hlen : l.length + 1 ≤ 140737488355328) (hBw : B ≤ w.heap.size) :
    Calls Tryd.prog 21 #[.pointer (some ⟨b, 0, none⟩), .int .u8 n] (w.alloc ob) fun e w' => e = .returned .nilIface ∧ Lib.IsBuilder 51 5 B b (Lib.byteCells (l ++ [c])) w' ∧ Below B w w' ∧ B ≤ w'.heap.size ∧ w'.heap[w.heap.size]? = some ob := by
  subst hn
  have hbl : Below w.heap.size w (w.alloc ob) := (Below.refl _ _).alloc (Nat.le_refl _) _
  have hv : b < w.heap.size ∧ ∀ v, (w.alloc ob).cell? ⟨b, 1, none⟩ = some v → v.ownBlock ≠ some w.heap.size := by
    have key : ∀ (p : Value), Lib.BuilderAt 51 5 B b p (Lib.byteCells l) w → b < w.heap.size ∧ ∀ v, (w.alloc ob).cell? ⟨b, 1, none⟩ = some v → v.ownBlock ≠ some w.heap.size := by
      rintro p ⟨_, v0, hb0, ho, _⟩
      have hlt := (Array.getElem?_eq_some_iff.1 hb0).1
      refine ⟨hlt, fun v hc e => ?_⟩
      have hb1 : (w.alloc ob).heap[b]? = _ := (Lib.alloc_old w ob b hlt).trans hb0
      rw [Lib.cell_of_heap hb1] at hc
      have : v0 = v := by simpa using hc
      subst this
      have := (ho.lt _ e).2
      omega
    rcases h with h | h
    · exact key _ h
    · exact key _ h
  refine (writeByte_box B b (Lib.byteCells l) c.toNat (w.alloc ob) w.heap.size ob (builder_on h hbl) (heap_alloc_new w ob) (by omega) hv.2 (by simpa [Lib.byteCells] using hlen) (by simp; omega)).mono ?_
  rintro e w' ⟨rfl, h1, hb, hk⟩
  have e1 : Lib.byteCells (l ++ [c]) = Lib.byteCells l ++ [.int .u8 c.toNat] := by simp [Lib.byteCells]
  refine ⟨rfl, Or.inr (by rw [e1]; exact h1), ((Below.refl B w).alloc hBw ob).trans hb, by have := hb.size; simp at this; omega, hk⟩

namespace V
/-- The texts of signs, a blank between. -/
def joinT : List Tm → List UInt8
  | [] => []
  | x :: r => x.2.1.data.toList ++ (r.map (fun y => 32 :: y.2.1.data.toList)).flatten
theorem joinT_snoc (xs : List Tm) (x : Tm) : joinT (xs ++ [x]) = joinT xs ++ ((if xs = [] then [] else [32]) ++ x.2.1.data.toList) := by
  cases xs with
  | nil => simp [joinT]
  | cons y r => simp [joinT]
theorem joinT_take_le (xs : List Tm) (k : Nat) : (joinT (xs.take k)).length ≤ (joinT xs).length := by
  cases xs with
  | nil => simp
  | cons y r =>
    cases k with
    | zero => simp [joinT]
    | succ k =>
      simp only [List.take_succ_cons, joinT, List.length_append]
      have : (r.take k).map (fun y : Tm => 32 :: y.2.1.data.toList) = (r.map (fun y : Tm => 32 :: y.2.1.data.toList)).take k := by rw [List.map_take]
      rw [this]
      have h2 : ∀ (ls : List (List UInt8)) (k : Nat), (ls.take k).flatten.length ≤ ls.flatten.length := by
        intro ls
        induction ls with
        | nil => intro k; simp
        | cons a ls ih =>
          intro k
          cases k with
          | zero => simp
          | succ k => simp only [List.take_succ_cons, List.flatten_cons, List.length_append]; have := ih k; omega
      have := h2 (r.map (fun y : Tm => 32 :: y.2.1.data.toList)) k
      omega
end V

set_option maxHeartbeats 4000000 in
set_option maxRecDepth 100000 in
theorem join_any (a : Option Addr) (len cap : Nat) (xs : List Tm) (w : World) (hrow : RowT w a xs) (hl : len ≤ xs.length) (hl' : xs.length ≤ len) (hj : (joinT xs).length ≤ 1000000) (h1k : len ≤ 20000) :
    Calls Tryd.prog 11 #[.slice a len cap] w fun e w' => e = .returned (.string ⟨(joinT xs).toArray⟩) ∧ Below w.heap.size w w' := by
  go_enter Tryd.func11, Tryd.ntmps11
  go_wp2_with fail
  have hI0 := Lib.fresh_isBuilder 51 5 w
  have hb0 : Below w.heap.size w (w.alloc (.cells #[.pointer none, .slice none 0 0] 51)) := (Below.refl _ _).alloc (Nat.le_refl _) _
  have hB0 : w.heap.size ≤ (w.alloc (.cells #[.pointer none, .slice none 0 0] 51)).heap.size := by simp
  generalize w.alloc (.cells #[.pointer none, .slice none 0 0] 51) = W at hI0 hb0 hB0 ⊢
  go_loopw [8] (fun i wr => ∃ k : Nat, k ≤ len ∧ i = .int .i64 k ∧ Lib.IsBuilder 51 5 w.heap.size w.heap.size (Lib.byteCells (joinT (xs.take k))) wr ∧ Below w.heap.size w wr ∧ w.heap.size ≤ wr.heap.size) (fun i _ => len - (intOf i).toNat)
  case atStart => exact ⟨0, by omega, rfl, hI0, hb0, hB0⟩
  case round =>
    obtain ⟨k, hk, rfl, hI, hbw, hBw⟩ := hrel
    clear hI0 hb0 hB0
    by_cases hlt : k < len
    · obtain ⟨b, o, ha, hbl, c0, c1, c2, c3⟩ := (hrow.on hbw).up (show k < xs.length by omega)
      subst ha
      have HT : Hid (joinT (xs.take (k + 1)) = joinT (xs.take k) ++ ((if k = 0 then [] else [32]) ++ xs[k].2.1.data.toList)) := by
        show _ = _
        rw [List.take_succ_eq_append_getElem (by omega), joinT_snoc]
        congr 2
        by_cases hk0 : k = 0
        · subst hk0; simp
        · have hne : ¬ xs.take k = [] := by
            intro e
            have := congrArg List.length e
            rw [List.length_take, List.length_nil] at this; omega
          rw [if_neg hne, if_neg hk0]
      have hle : (joinT (xs.take (k + 1))).length ≤ 1000000 := Nat.le_trans (joinT_take_le xs (k + 1)) hj
      have hlen := congrArg List.length (unhide HT)
      rw [List.length_append, List.length_append, size_list] at hlen
      have hle1 : (joinT (xs.take k)).length + xs[k].2.1.size ≤ 1000000 := by omega
      clear hlen
      generalize xs[k] = x at c0 c1 c2 c3 HT hle1
      by_cases hk0 : k = 0
      · have hk1 : decide (0 < (k : Int)) = false := decide_eq_false (by omega)
        have hk1' : decide (0 < k) = false := decide_eq_false (by omega)
        have HK0 := hide hk0
        have hnk : ¬ 0 < k := by omega
        clear hk0
        have hbx : Below wr.heap.size wr (wr.alloc (bxT x)) := (Below.refl _ _).alloc (Nat.le_refl _) _
        have hI' := builder_on hI hbx
        have hBx : w.heap.size ≤ (wr.alloc (bxT x)).heap.size := by have := hbx.size; omega
        go_wp2_with (go_at_call 22; refine (writeStr_at w.heap.size w.heap.size _ x.2.1 _ hI' (by omega) hBx).mono ?_; rintro e w2 ⟨rfl, hI2, hb2, hB2⟩)
        go_roundw
        case rel => exact ⟨k + 1, by omega, by go_num, by rw [unhide HT, if_pos (unhide HK0)]; exact hI2, (bt hbw hbx).trans hb2, hB2⟩
        case measure => simp [intOf]; omega
      · have hk1 : decide (0 < (k : Int)) = true := decide_eq_true (by omega)
        have hk1' : 0 < k := by omega
        go_wp2_with (go_at_call 21; refine (writeByte_new w.heap.size w.heap.size _ 32 _ (by rfl) wr (bxT x) hI (by omega) hBw).mono ?_; rintro e w2 ⟨rfl, hI2, hb2, hB2, hx2⟩; have d1 : w2.cell? ⟨wr.heap.size, 1, none⟩ = some (.string x.2.1) := (by rw [Lib.cell_of_heap hx2]; rfl))
        go_wp2_with (go_at_call 22; refine (writeStr_at w.heap.size w.heap.size _ x.2.1 _ hI2 (by simp; omega) hB2).mono ?_; rintro e w3 ⟨rfl, hI3, hb3, hB3⟩)
        go_roundw
        case rel => exact ⟨k + 1, by omega, by go_num, by rw [unhide HT, if_neg hk0, ← List.append_assoc]; exact hI3, hbw.trans (hb2.trans hb3), hB3⟩
        case measure => simp [intOf]; omega
    · have HE : Hid (xs.take k = xs) := hide (List.take_of_length_le (by omega))
      rw [unhide HE] at hI
      go_wp2_with (go_at_call 23; refine (Tryd.Builder_String_any w.heap.size w.heap.size (joinT xs) _ hI hBw).mono ?_; rintro e w3 ⟨rfl, hb3⟩)
      go_ret
      exact ⟨rfl, hbw.trans hb3⟩
end Go.Proofs.YtaapeleoiclplaaDoor
