/- A place in a box; what lex.behind answers. -/
import Derived.Test.YtaapeleoiclplaaDoorLexE
import Derived.Lib.BufferMore
namespace Go.Proofs.YtaapeleoiclplaaDoor
open Go.RowKit
open V

/-- A box that holds a place. -/
structure PB (w : World) (b : Nat) (l c : Int) : Prop where
  at_ : w.heap[b]? = some (.cells #[.int .i64 l, .int .i64 c] 25 (0, 0))
namespace PB
theorem lt {w : World} {b : Nat} {l c : Int} (h : PB w b l c) : b < w.heap.size := by
  rcases Nat.lt_or_ge b w.heap.size with h' | h'
  · exact h'
  · have := h.at_
    simp [Array.getElem?_eq_none h'] at this
theorem new (w : World) (l c : Int) : PB (w.alloc (.cells #[.int .i64 l, .int .i64 c] 25)) w.heap.size l c := ⟨heap_alloc_new w _⟩
theorem alloc {w : World} {b : Nat} {l c : Int} (h : PB w b l c) (o : Obj) : PB (w.alloc o) b l c := ⟨by rw [Lib.alloc_old w o b h.lt]; exact h.at_⟩
theorem on {w w' : World} {b : Nat} {l c : Int} (h : PB w b l c) (hb : Below w.heap.size w w') : PB w' b l c := ⟨by rw [hb.block b h.lt]; exact h.at_⟩
theorem c0 {w : World} {b : Nat} {l c : Int} (h : PB w b l c) : w.cell? ⟨b, 0, none⟩ = some (.int .i64 l) := by rw [Lib.cell_of_heap h.at_]; rfl
theorem c1 {w : World} {b : Nat} {l c : Int} (h : PB w b l c) : w.cell? ⟨b, 1, none⟩ = some (.int .i64 c) := by rw [Lib.cell_of_heap h.at_]; rfl
theorem f0 {w : World} {b : Nat} {l c : Int} (h : PB w b l c) : w.frozen? ⟨b, 0, none⟩ = false := Lib.frozen_of_heap h.at_ 0
theorem f1 {w : World} {b : Nat} {l c : Int} (h : PB w b l c) : w.frozen? ⟨b, 1, none⟩ = false := Lib.frozen_of_heap h.at_ 1
theorem set0 {w : World} {b : Nat} {l c : Int} (h : PB w b l c) (x : Int) : PB (w.setCell ⟨b, 0, none⟩ (.int .i64 x)) b x c := ⟨by rw [Lib.heap_setCell_same h.at_]; rfl⟩
theorem set1 {w : World} {b : Nat} {l c : Int} (h : PB w b l c) (x : Int) : PB (w.setCell ⟨b, 1, none⟩ (.int .i64 x)) b l x := ⟨by rw [Lib.heap_setCell_same h.at_]; rfl⟩
theorem other {w : World} {b : Nat} {l c : Int} (h : PB w b l c) {g : Nat} (hne : b ≠ g) (o : Nat) (u : Value) : PB (w.setCell ⟨g, o, none⟩ u) b l c :=
  ⟨by rw [Below.heap_setCell w ⟨g, o, none⟩ u b hne]; exact h.at_⟩
theorem drew {w : World} {b : Nat} {l c : Int} (h : PB w b l c) : PB w.drew b l c := ⟨h.at_⟩
end PB

theorem fold_take (s : ByteArray) (p : Nat × Nat) (k : Nat) (h : k < s.size) : (s.data.toList.take (k + 1)).foldl adv p = adv ((s.data.toList.take k).foldl adv p) s[k] := by
  rw [take_snoc s k h, List.foldl_append]; rfl
theorem adv_nl {c : UInt8} {p : Nat × Nat} (h : ((c.toNat : Int) == 10) = true) : adv p c = (p.1 + 1, 1) := by
  have : c = 10 := UInt8.toNat_inj.1 (by have := beq_iff_eq.1 h; show c.toNat = 10; omega)
  unfold adv; rw [if_pos this]
theorem adv_one {c : UInt8} {p : Nat × Nat} (h : ((c.toNat : Int) == 10) = false) : adv p c = (p.1, p.2 + 1) := by
  have : ¬ c = 10 := by rintro rfl; exact absurd h (by decide)
  unfold adv; rw [if_neg this]
theorem ret_agg {a b c d : Int} (h : a = c) (h' : b = d) : Ending.returned (.agg #[.int .i64 a, .int .i64 b]) = .returned (.agg #[.int .i64 c, .int .i64 d]) := by rw [h, h']

set_option maxHeartbeats 2000000 in
set_option maxRecDepth 100000 in
theorem behind_any (l c : Nat) (s : ByteArray) (w : World) (hs : s.size ≤ 20000) (hl : l ≤ 40000) (hc : c ≤ 40000) :
    Calls Tryd.prog 18 #[.agg #[.int .i64 l, .int .i64 c], .string s] w fun e w' => e = .returned (.agg #[.int .i64 (s.data.toList.foldl adv (l, c)).1, .int .i64 (s.data.toList.foldl adv (l, c)).2]) ∧ Below w.heap.size w w' := by
  go_enter Tryd.func18, Tryd.ntmps18
  go_wp2
  have hp0 := (PB.new w l c).alloc (.cells #[.int .i64 0, .int .i64 0] 25)
  have hr0 := PB.new (w.alloc (.cells #[.int .i64 l, .int .i64 c] 25)) 0 0
  rw [show (w.alloc (.cells #[.int .i64 l, .int .i64 c] 25)).heap.size = w.heap.size + 1 by simp] at hr0
  have hb0 : Below w.heap.size w ((w.alloc (.cells #[.int .i64 l, .int .i64 c] 25)).alloc (.cells #[.int .i64 0, .int .i64 0] 25)) := ((Below.refl _ _).alloc (Nat.le_refl _) _).alloc (by simp) _
  generalize (w.alloc (.cells #[.int .i64 (l : Int), .int .i64 (c : Int)] 25)).alloc (.cells #[.int .i64 0, .int .i64 0] 25) = W at hp0 hr0 hb0 ⊢
  go_loopw [8] (fun i wr => ∃ (k a b : Nat), k ≤ s.size ∧ i = .int .i64 k ∧ Hid ((s.data.toList.take k).foldl adv (l, c) = (a, b)) ∧ a ≤ 40000 + k ∧ b ≤ 40000 + k ∧ PB wr w.heap.size a b ∧ PB wr (w.heap.size + 1) 0 0 ∧ Below w.heap.size w wr) (fun i _ => s.size - (intOf i).toNat)
  case atStart => exact ⟨0, l, c, by omega, rfl, hide (by simp), by omega, by omega, hp0, hr0, hb0⟩
  case round =>
    obtain ⟨k, a, b, hk, rfl, HF, ha, hb, hp, hr, hbw⟩ := hrel
    obtain ⟨p0, p1, q0, q1⟩ : _ ∧ _ ∧ _ ∧ _ := ⟨hp.c0, hp.c1, hp.f0, hp.f1⟩
    by_cases hlt : k < s.size
    · cases hn : ((s[k].toNat : Int) == 10)
      · have HF' : Hid ((s.data.toList.take (k + 1)).foldl adv (l, c) = (a, b + 1)) := hide (by rw [fold_take s _ k hlt, unhide HF, adv_one hn])
        go_wp2_with fail
        go_roundw
        case rel => exact ⟨k + 1, a, b + 1, by omega, by go_num, HF', by omega, by omega, hp.set1 _, hr.other (by omega) _ _, hbw.setCell (p := ⟨w.heap.size, 1, none⟩) (Nat.le_refl _) _⟩
        case measure => simp [intOf]; omega
      · have HF' : Hid ((s.data.toList.take (k + 1)).foldl adv (l, c) = (a + 1, 1)) := hide (by rw [fold_take s _ k hlt, unhide HF, adv_nl hn])
        go_wp2_with fail
        go_roundw
        case rel => exact ⟨k + 1, a + 1, 1, by omega, by go_num, HF', by omega, by omega, ((hp.set1 _).set0 _).set1 _, ((hr.other (by omega) _ _).other (by omega) _ _).other (by omega) _ _, ((hbw.setCell (p := ⟨w.heap.size, 1, none⟩) (Nat.le_refl _) _).setCell (p := ⟨w.heap.size, 0, none⟩) (Nat.le_refl _) _).setCell (p := ⟨w.heap.size, 1, none⟩) (Nat.le_refl _) _⟩
        case measure => simp [intOf]; omega
    · have HR : Hid (s.data.toList.foldl adv (l, c) = (a, b)) := by
        show _ = _
        have := unhide HF
        rw [take_all s k (by omega)] at this
        exact this
      obtain ⟨r0, r1, u0, u1⟩ : _ ∧ _ ∧ _ ∧ _ := ⟨hr.c0, hr.c1, hr.f0, hr.f1⟩
      go_wp2_with fail
      have r9 := (hr.set0 a).set1 b
      refine bodyPost_ret (v := .agg #[.int .i64 a, .int .i64 b]) (by simp [results, Tryd.results18, go_sem, r9.c0, r9.c1]) rfl ⟨ret_agg (by rw [unhide HR]) (by rw [unhide HR]), ?_⟩
      exact (hbw.setCell (p := ⟨w.heap.size + 1, 0, none⟩) (by simp) _).setCell (p := ⟨w.heap.size + 1, 1, none⟩) (by simp) _
end Go.Proofs.YtaapeleoiclplaaDoor
