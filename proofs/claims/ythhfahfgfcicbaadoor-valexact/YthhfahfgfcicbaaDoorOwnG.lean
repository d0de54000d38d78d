/- What constablelaw01.wakes answers: true. -/
import Derived.Test.YthhfahfgfcicbaaDoorOwnF
import Derived.Lib.ItoaMem
namespace Go.Proofs.YthhfahfgfcicbaaDoor
open Go.RowKit
open V

theorem parse_ok (s : ByteArray) (k n : Int) (r : List UInt8) (w : World) (hs : s.size ≤ 1000) (he : Env w) (h : parseL s.data.toList = some (k, n, r)) :
    Calls Tryd.prog 9 #[.string s] w fun e w' => e = .returned (.tuple #[.agg #[.int .i64 k, .int .i64 n, .string ⟨r.toArray⟩], .int .i64 0]) ∧ Below w.heap.size w w' := by
  refine (parse_any s w hs he).mono ?_
  rintro e w' ⟨hp, hb⟩
  unfold Parses at hp
  rw [h] at hp
  exact ⟨hp, hb⟩
theorem parse_no (s : ByteArray) (w : World) (hs : s.size ≤ 1000) (he : Env w) (h : parseL s.data.toList = none) :
    Calls Tryd.prog 9 #[.string s] w fun e w' => e = .returned (.tuple #[.agg #[.int .i64 0, .int .i64 0, .string ⟨#[]⟩], .int .i64 7]) ∧ Below w.heap.size w w' := by
  refine (parse_any s w hs he).mono ?_
  rintro e w' ⟨hp, hb⟩
  unfold Parses at hp
  rw [h] at hp
  exact ⟨hp, hb⟩

theorem bt {a b c : World} (h : Below a.heap.size a b) (k : Below b.heap.size b c) : Below a.heap.size a c := h.trans (k.mono h.size)

theorem wk_text : textL 3 0 [97, 34, 98] = [34, 97, 92, 34, 98, 34] := by decide
theorem wk_right : rightB 3 0 [97, 34, 98] = true := by decide
theorem wk_itoa42 : Lib.itoa (-42) = [45, 52, 50] := by
  have := Lib.itoa_neg 42 (by decide)
  rw [Lib.decDigits_two (by decide) (by decide)] at this
  exact this
theorem wk_itoa7 : Lib.itoa 7 = [55] := by
  have := Lib.itoa_nonneg 7
  rw [Lib.decDigits_one (by decide)] at this
  exact this
theorem wk_num42 : numL [45, 52, 50] = some (-42) := by
  have h : Lib.atoiAll [45, 52, 50] = .ok (-42) := by decide
  unfold numL; rw [h]; simp [wk_itoa42]
theorem wk_num7 : numL [48, 48, 55] = none := by
  have h : Lib.atoiAll [48, 48, 55] = .ok 7 := by decide
  unfold numL; rw [h]; simp [wk_itoa7]
theorem wk_parse42 : parseL [45, 52, 50] = some (1, -42, []) := by
  have h : valL [45, 52, 50] = some (1, -42, []) := by
    unfold valL; rw [wk_num42]; decide
  exact parseL_good h (by decide)
theorem wk_parse7 : parseL [48, 48, 55] = none := by
  apply parseL_none
  unfold valL; rw [wk_num7]; decide
theorem wk_cmp : or3 (Lib.compareInt 1 2) (Lib.compareInt 2 0) (Lib.compareBytes [] [97]) = -1 := by decide
theorem wk_chk : chk (rightB 0 0 []) = 1 := by decide

set_option maxHeartbeats 2000000 in
theorem wakes_any (w : World) (he : Env w) :
    Calls Tryd.prog 15 #[] w fun e w' => e = .returned (.bool true) ∧ Below w.heap.size w w' := by
  go_enter Tryd.func15, Tryd.ntmps15
  go_wp2_with (go_at_call 8; refine (text_ok 3 0 ⟨#[97, 34, 98]⟩ _ (by decide) he wk_right).mono ?_; rintro e w1 ⟨rfl, hb1⟩; rw [show textL 3 0 (⟨#[97, 34, 98]⟩ : ByteArray).data.toList = [34, 97, 92, 34, 98, 34] from wk_text]; refine Hid.out ?_)
  have he1 := he.on hb1
  refine Lib.hid ?_
  go_wp2_with (go_at_call 9; refine (parse_ok ⟨#[45, 52, 50]⟩ 1 (-42) [] _ (by decide) he1 wk_parse42).mono ?_; rintro e w2 ⟨rfl, hb2⟩; refine Hid.out ?_)
  have he2 := he1.on hb2
  refine Lib.hid ?_
  go_wp2_with (go_at_call 9; refine (parse_no ⟨#[48, 48, 55]⟩ _ (by decide) (he2.on ((Below.refl _ _).alloc (Nat.le_refl _) _)) wk_parse7).mono ?_; rintro e w3 ⟨rfl, hb3⟩; obtain ⟨hcl, hfr⟩ := bcell hb3; refine Hid.out ?_)
  have hk3 := kept_new hb3
  have c1 : w3.cell? ⟨w2.heap.size, 1, none⟩ = some (.int .i64 (-42)) := by rw [Lib.cell_of_heap hk3]; rfl
  have hz : w2.heap.size < w3.heap.size := by have := hb3.size; simp at this; omega
  refine Lib.hid ?_
  go_wp2_with (first | (go_at_call 11; refine (compare_any 1 2 2 0 ⟨#[]⟩ ⟨#[97]⟩ _).mono ?_; rintro e w4 ⟨rfl, hb4⟩; rw [show or3 (Lib.compareInt 1 2) (Lib.compareInt 2 0) (Lib.compareBytes (⟨#[]⟩ : ByteArray).data.toList (⟨#[97]⟩ : ByteArray).data.toList) = -1 from wk_cmp]) | (go_at_call 14; refine (check_any 0 0 ⟨#[]⟩ _ (by decide)).mono ?_; rintro e w5 ⟨rfl, hb5⟩; rw [show chk (rightB 0 0 (⟨#[]⟩ : ByteArray).data.toList) = 1 from wk_chk]))
  go_ret
  exact ⟨rfl, bt (bt (bt (bt hb1 hb2) (below_box hb3)) (below_box hb4)) hb5⟩
end Go.Proofs.YthhfahfgfcicbaaDoor
