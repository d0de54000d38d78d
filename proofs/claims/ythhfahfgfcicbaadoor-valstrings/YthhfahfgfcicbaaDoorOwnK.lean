/- The walk of constablelaw01.ValStrings: it answers true, whatever the text and the number. -/
import Derived.Test.YthhfahfgfcicbaaDoorOwnJ
import Derived.Test.YthhfahfgfcicbaaDoorOwnQ
namespace Go.Proofs.YthhfahfgfcicbaaDoor
open Go.RowKit
open V

theorem data_app (a b : ByteArray) : (a ++ b).data.toList = a.data.toList ++ b.data.toList := by
  rw [ByteArray.data_append]; simp
theorem data_one (s : ByteArray) (k : Nat) (h : k < s.size) : (s.extract k (k + 1)).data.toList = [s[k]] := by
  rw [Lib.extract_data, List.drop_eq_getElem_cons (by simpa using h), show k + 1 - k = 1 by omega]
  rfl
theorem size_app (a b : ByteArray) : (a ++ b).size = a.size + b.size := ByteArray.size_append
theorem size_one (s : ByteArray) (k : Nat) (h : k < s.size) : (s.extract k (k + 1)).size = 1 := by
  rw [← size_list, data_one s k h]; rfl

theorem how_mod (how : Int) : ∃ m : Nat, m < 7 ∧ wrap64 ((IntKind.u64.wrap how).tmod 7) = (m : Int) := by
  have h0 : 0 ≤ IntKind.u64.wrap how := by
    show 0 ≤ how % 18446744073709551616
    omega
  have h1 : (IntKind.u64.wrap how).tmod 7 = (IntKind.u64.wrap how) % 7 := Int.tmod_eq_emod_of_nonneg h0
  rw [h1]
  have h2 : 0 ≤ (IntKind.u64.wrap how) % 7 := Int.emod_nonneg _ (by decide)
  have h3 : (IntKind.u64.wrap how) % 7 < 7 := Int.emod_lt_of_pos _ (by decide)
  generalize (IntKind.u64.wrap how) % 7 = x at h2 h3
  refine ⟨x.toNat, by omega, ?_⟩
  unfold wrap64; omega
theorem head_ne {tk : ByteArray} {s : List UInt8} (h : tk.data.toList = escL s) (h0 : 0 < tk.size) : tk[0].toNat ≠ 34 := by
  have hg := get_data tk 0 h0
  rw [h] at hg
  cases he : escL s with
  | nil => rw [he] at hg; simp at hg
  | cons c q =>
    rw [he] at hg
    simp at hg
    rw [← hg]
    exact escL_head s c q he
theorem nb0 {tk : ByteArray} {s : List UInt8} (h : tk.data.toList = escL s) : parseL (⟨#[34]⟩ ++ tk : ByteArray).data.toList = none := by
  rw [data_app, h]; exact bad0 s
theorem nb1 {tk : ByteArray} {s : List UInt8} (h : tk.data.toList = escL s) : parseL (tk ++ ⟨#[34]⟩ : ByteArray).data.toList = none := by
  rw [data_app, h]; exact bad1 s
theorem nb2 {tk : ByteArray} {s : List UInt8} (h : tk.data.toList = escL s) : parseL (⟨#[34]⟩ ++ tk ++ ⟨#[92, 34]⟩ : ByteArray).data.toList = none := by
  rw [data_app, data_app, h]; exact bad2 s
theorem nb3 {tk : ByteArray} {s : List UInt8} (h : tk.data.toList = escL s) : parseL (⟨#[34]⟩ ++ tk ++ ⟨#[92, 97, 34]⟩ : ByteArray).data.toList = none := by
  rw [data_app, data_app, h]; exact bad3 s
theorem nb4 {tk : ByteArray} {s : List UInt8} (h : tk.data.toList = escL s) : parseL (⟨#[34]⟩ ++ tk ++ ⟨#[1, 34]⟩ : ByteArray).data.toList = none := by
  rw [data_app, data_app, h]; exact bad4 s
theorem nb5 {tk : ByteArray} {s : List UInt8} (h : tk.data.toList = escL s) : parseL (⟨#[34]⟩ ++ tk ++ ⟨#[34, 34]⟩ : ByteArray).data.toList = none := by
  rw [data_app, data_app, h]; exact bad5 s
theorem nb6 {tk : ByteArray} {s : List UInt8} (h : tk.data.toList = escL s) : parseL (⟨#[34]⟩ ++ tk ++ ⟨#[34, 32]⟩ : ByteArray).data.toList = none := by
  rw [data_app, data_app, h]; exact bad6 s

set_option maxHeartbeats 2000000 in
theorem strings_walk (s : ByteArray) (how : Int) (w : World) (he : Env w) (hs : s.size ≤ 60) :
    Calls Tryd.prog 7 #[.string s, .int .i64 how] w fun e w' => e = .returned (.bool true) ∧ Below w.heap.size w w' := by
  have hd : decide (60 < (s.size : Int)) = false := by simp; omega
  go_enter Tryd.func7, Tryd.ntmps7
  go_wp2
  go_loop [5, 6] (fun t i => ∃ (k : Nat) (tk : ByteArray), k ≤ s.size ∧ t = .string tk ∧ i = .int .i64 k ∧ tk.size ≤ 2 * k ∧ Hid (tk.data.toList = escL (s.data.toList.take k)) ∧ Hid ((s.data.toList.take k).all strC = true)) (fun _ i => s.size - (intOf i).toNat)
  case atStart => exact ⟨0, ⟨#[]⟩, by omega, rfl, rfl, by decide, by rfl, by rfl⟩
  case round =>
    obtain ⟨k, tk, hk, rfl, rfl, htk, HT, HA⟩ := hrel
    by_cases hlt : k < s.size
    · by_cases h1 : 32 ≤ (s[k].toNat : Int)
      · have b1 : decide ((s[k].toNat : Int) < 32) = false := by simp; omega
        by_cases h2 : (s[k].toNat : Int) ≤ 126
        · have b2 : decide (126 < (s[k].toNat : Int)) = false := by simp; omega
          have HA' : Hid ((s.data.toList.take (k + 1)).all strC = true) := by
            show _ = _
            rw [take_snoc s k hlt, List.all_append, unhide HA]; simp [strC, h1, h2]
          have hse := size_one s k hlt
          by_cases h3 : (s[k].toNat : Int) = 34
          · have b3 : ((s[k].toNat : Int) == 34) = true := by simp [h3]
            have HT' : Hid ((tk ++ ⟨#[92]⟩ ++ s.extract k (k + 1)).data.toList = escL (s.data.toList.take (k + 1))) := by
              show _ = _
              rw [data_app, data_app, data_one s k hlt, take_snoc s k hlt, escL_append, escL_one_t (escB_t (Or.inl h3)), unhide HT]; simp
            have HZ : Hid ((tk ++ ⟨#[92]⟩ ++ s.extract k (k + 1)).size ≤ 2 * (k + 1)) := by
              show _ ≤ _
              rw [size_app, size_app, hse]; show tk.size + 1 + 1 ≤ _; omega
            clear h3 hse
            go_wp2
            exact ⟨⟨k + 1, _, by omega, rfl, by go_num, unhide HZ, HT', HA'⟩, by simp [intOf]; omega⟩
          · have b3 : ((s[k].toNat : Int) == 34) = false := by simp [h3]
            by_cases h4 : (s[k].toNat : Int) = 92
            · have b4 : ((s[k].toNat : Int) == 92) = true := by simp [h4]
              have HT' : Hid ((tk ++ ⟨#[92]⟩ ++ s.extract k (k + 1)).data.toList = escL (s.data.toList.take (k + 1))) := by
                show _ = _
                rw [data_app, data_app, data_one s k hlt, take_snoc s k hlt, escL_append, escL_one_t (escB_t (Or.inr h4)), unhide HT]; simp
              have HZ : Hid ((tk ++ ⟨#[92]⟩ ++ s.extract k (k + 1)).size ≤ 2 * (k + 1)) := by
                show _ ≤ _
                rw [size_app, size_app, hse]; show tk.size + 1 + 1 ≤ _; omega
              clear h3 h4 hse
              go_wp2
              exact ⟨⟨k + 1, _, by omega, rfl, by go_num, unhide HZ, HT', HA'⟩, by simp [intOf]; omega⟩
            · have b4 : ((s[k].toNat : Int) == 92) = false := by simp [h4]
              have HT' : Hid ((tk ++ s.extract k (k + 1)).data.toList = escL (s.data.toList.take (k + 1))) := by
                show _ = _
                rw [data_app, data_one s k hlt, take_snoc s k hlt, escL_append, escL_one_f (escB_f (by omega)), unhide HT]
              have HZ : Hid ((tk ++ s.extract k (k + 1)).size ≤ 2 * (k + 1)) := by
                show _ ≤ _
                rw [size_app, hse]; omega
              clear h3 h4 hse
              go_wp2
              exact ⟨⟨k + 1, _, by omega, rfl, by go_num, unhide HZ, HT', HA'⟩, by simp [intOf]; omega⟩
        · have b2 : decide (126 < (s[k].toNat : Int)) = true := by simp; omega
          go_wp2
          go_ret
          exact ⟨rfl, Below.refl _ _⟩
      · have b1 : decide ((s[k].toNat : Int) < 32) = true := by simp; omega
        go_wp2
        go_ret
        exact ⟨rfl, Below.refl _ _⟩
    · have hT : tk.data.toList = escL s.data.toList := by rw [unhide HT, take_all s k (by omega)]
      have hA : s.data.toList.all strC = true := by rw [← take_all s k (by omega)]; exact unhide HA
      have hR : rightB 3 0 s.data.toList = true := by simp [rightB, strB, hA, hs]
      have hQ : (⟨#[34]⟩ ++ tk ++ ⟨#[34]⟩ : ByteArray).data.toList = textL 3 0 s.data.toList := by
        rw [data_app, data_app, hT]; simp [textL, quoteL]
      have HPQ : Hid (parseL (⟨#[34]⟩ ++ tk ++ ⟨#[34]⟩ : ByteArray).data.toList = some (3, 0, s.data.toList)) := by
        show _ = _
        rw [hQ]; exact parseL_text hR
      have HQ := hide hQ
      have HR := hide hR
      have HTT := hide hT
      have lq : (⟨#[34]⟩ ++ tk ++ ⟨#[34]⟩ : ByteArray).size ≤ 1000 := by
        rw [size_app, size_app]; show 1 + tk.size + 1 ≤ _; omega
      have ls : s.size ≤ 1000 := by omega
      clear hT hA hR hQ HT HA
      go_wp2_with fail
      generalize hq : (⟨#[34]⟩ ++ tk ++ ⟨#[34]⟩ : ByteArray) = q at HPQ HQ lq ⊢
      have Hq := hide hq
      clear hq
      refine (parse_str q s 3 0 w lq he (unhide HPQ)).mono ?_
      rintro e w1 ⟨rfl, k1⟩
      go_wp2_with fail
      refine (text_str 3 0 s q _ ls ?_ (unhide HR) (unhide HQ)).mono ?_
      · exact he.on (k1.alloc k1.size _)
      rintro e w2 ⟨rfl, k2⟩
      have hkv := kept_new k2
      have hw2 := bt k1 (below_box k2)
      obtain ⟨v0, v1, v2⟩ := cells_at hkv
      have hlt1 : w1.heap.size < w2.heap.size := cell_lt v0
      clear hkv
      obtain ⟨m, hm7, hm⟩ := how_mod how
      have hqq : (q.toList == (⟨#[34]⟩ ++ tk ++ ⟨#[34]⟩ : ByteArray).toList) = true := by rw [unhide Hq]; simp
      have hmc : m = 0 ∨ m = 1 ∨ m = 2 ∨ m = 3 ∨ m = 4 ∨ m = 5 ∨ m = 6 := by omega
      clear hm7
      rcases hmc with rfl | rfl | rfl | rfl | rfl | rfl | rfl
      · have N0 := hide (nb0 (unhide HTT))
        have L0 : (⟨#[34]⟩ ++ tk : ByteArray).size ≤ 1000 := by rw [size_app]; show 1 + tk.size ≤ _; omega
        go_wp2_with fail
        refine (parse_no _ _ L0 (he.on (hw2.alloc hw2.size _)) (unhide N0)).mono ?_
        rintro e w3 ⟨rfl, k3⟩
        have hw3 := bt hw2 (below_box k3)
        have v0 := cell_on (below_box k3) v0
        have v2 := cell_on (below_box k3) v2
        have hlt1 : w1.heap.size < w3.heap.size := cell_lt v0
        go_wp2_with (go_at_call 15; refine (wakes_any _ (he.on (hw3.alloc hw3.size _))).mono ?_; rintro e w7 ⟨rfl, k7⟩)
        go_ret
        exact ⟨rfl, bt (hw3.alloc hw3.size _) k7⟩
      · have N1 := hide (nb1 (unhide HTT))
        have L1 : (tk ++ ⟨#[34]⟩ : ByteArray).size ≤ 1000 := by rw [size_app]; show tk.size + 1 ≤ _; omega
        by_cases hz : tk.size = 0
        · have z1 : decide (0 < (tk.size : Int)) = false := decide_eq_false (by omega)
          go_wp2_with fail
          refine (parse_no _ _ L1 (he.on (hw2.alloc hw2.size _)) (unhide N1)).mono ?_
          rintro e w3 ⟨rfl, k3⟩
          have hw3 := bt hw2 (below_box k3)
          have v0 := cell_on (below_box k3) v0
          have v2 := cell_on (below_box k3) v2
          have hlt1 : w1.heap.size < w3.heap.size := cell_lt v0
          go_wp2_with (go_at_call 15; refine (wakes_any _ (he.on (hw3.alloc hw3.size _))).mono ?_; rintro e w7 ⟨rfl, k7⟩)
          go_ret
          exact ⟨rfl, bt (hw3.alloc hw3.size _) k7⟩
        · have z1 : decide (0 < (tk.size : Int)) = true := decide_eq_true (by omega)
          have hz0 : 0 < tk.size := by omega
          have z2 : ((tk[0].toNat : Int) == 34) = false := by
            rw [beq_eq_false_iff_ne]
            have hh := head_ne (unhide HTT) hz0
            omega
          go_wp2_with fail
          refine (parse_no _ _ L1 (he.on (hw2.alloc hw2.size _)) (unhide N1)).mono ?_
          rintro e w3 ⟨rfl, k3⟩
          have hw3 := bt hw2 (below_box k3)
          have v0 := cell_on (below_box k3) v0
          have v2 := cell_on (below_box k3) v2
          have hlt1 : w1.heap.size < w3.heap.size := cell_lt v0
          go_wp2_with (go_at_call 15; refine (wakes_any _ (he.on (hw3.alloc hw3.size _))).mono ?_; rintro e w7 ⟨rfl, k7⟩)
          go_ret
          exact ⟨rfl, bt (hw3.alloc hw3.size _) k7⟩
      · have N2 := hide (nb2 (unhide HTT))
        have L2 : (⟨#[34]⟩ ++ tk ++ ⟨#[92, 34]⟩ : ByteArray).size ≤ 1000 := by rw [size_app, size_app]; show 1 + tk.size + 2 ≤ _; omega
        go_wp2_with fail
        refine (parse_no _ _ L2 (he.on (hw2.alloc hw2.size _)) (unhide N2)).mono ?_
        rintro e w3 ⟨rfl, k3⟩
        have hw3 := bt hw2 (below_box k3)
        have v0 := cell_on (below_box k3) v0
        have v2 := cell_on (below_box k3) v2
        have hlt1 : w1.heap.size < w3.heap.size := cell_lt v0
        go_wp2_with (go_at_call 15; refine (wakes_any _ (he.on (hw3.alloc hw3.size _))).mono ?_; rintro e w7 ⟨rfl, k7⟩)
        go_ret
        exact ⟨rfl, bt (hw3.alloc hw3.size _) k7⟩
      · have N3 := hide (nb3 (unhide HTT))
        have L3 : (⟨#[34]⟩ ++ tk ++ ⟨#[92, 97, 34]⟩ : ByteArray).size ≤ 1000 := by rw [size_app, size_app]; show 1 + tk.size + 3 ≤ _; omega
        go_wp2_with fail
        refine (parse_no _ _ L3 (he.on (hw2.alloc hw2.size _)) (unhide N3)).mono ?_
        rintro e w3 ⟨rfl, k3⟩
        have hw3 := bt hw2 (below_box k3)
        have v0 := cell_on (below_box k3) v0
        have v2 := cell_on (below_box k3) v2
        have hlt1 : w1.heap.size < w3.heap.size := cell_lt v0
        go_wp2_with (go_at_call 15; refine (wakes_any _ (he.on (hw3.alloc hw3.size _))).mono ?_; rintro e w7 ⟨rfl, k7⟩)
        go_ret
        exact ⟨rfl, bt (hw3.alloc hw3.size _) k7⟩
      · have N4 := hide (nb4 (unhide HTT))
        have L4 : (⟨#[34]⟩ ++ tk ++ ⟨#[1, 34]⟩ : ByteArray).size ≤ 1000 := by rw [size_app, size_app]; show 1 + tk.size + 2 ≤ _; omega
        go_wp2_with fail
        refine (parse_no _ _ L4 (he.on (hw2.alloc hw2.size _)) (unhide N4)).mono ?_
        rintro e w3 ⟨rfl, k3⟩
        have hw3 := bt hw2 (below_box k3)
        have v0 := cell_on (below_box k3) v0
        have v2 := cell_on (below_box k3) v2
        have hlt1 : w1.heap.size < w3.heap.size := cell_lt v0
        go_wp2_with (go_at_call 15; refine (wakes_any _ (he.on (hw3.alloc hw3.size _))).mono ?_; rintro e w7 ⟨rfl, k7⟩)
        go_ret
        exact ⟨rfl, bt (hw3.alloc hw3.size _) k7⟩
      · have N5 := hide (nb5 (unhide HTT))
        have L5 : (⟨#[34]⟩ ++ tk ++ ⟨#[34, 34]⟩ : ByteArray).size ≤ 1000 := by rw [size_app, size_app]; show 1 + tk.size + 2 ≤ _; omega
        go_wp2_with fail
        refine (parse_no _ _ L5 (he.on (hw2.alloc hw2.size _)) (unhide N5)).mono ?_
        rintro e w3 ⟨rfl, k3⟩
        have hw3 := bt hw2 (below_box k3)
        have v0 := cell_on (below_box k3) v0
        have v2 := cell_on (below_box k3) v2
        have hlt1 : w1.heap.size < w3.heap.size := cell_lt v0
        go_wp2_with (go_at_call 15; refine (wakes_any _ (he.on (hw3.alloc hw3.size _))).mono ?_; rintro e w7 ⟨rfl, k7⟩)
        go_ret
        exact ⟨rfl, bt (hw3.alloc hw3.size _) k7⟩
      · have N6 := hide (nb6 (unhide HTT))
        have L6 : (⟨#[34]⟩ ++ tk ++ ⟨#[34, 32]⟩ : ByteArray).size ≤ 1000 := by rw [size_app, size_app]; show 1 + tk.size + 2 ≤ _; omega
        go_wp2_with fail
        refine (parse_no _ _ L6 (he.on (hw2.alloc hw2.size _)) (unhide N6)).mono ?_
        rintro e w3 ⟨rfl, k3⟩
        have hw3 := bt hw2 (below_box k3)
        have v0 := cell_on (below_box k3) v0
        have v2 := cell_on (below_box k3) v2
        have hlt1 : w1.heap.size < w3.heap.size := cell_lt v0
        go_wp2_with (go_at_call 15; refine (wakes_any _ (he.on (hw3.alloc hw3.size _))).mono ?_; rintro e w7 ⟨rfl, k7⟩)
        go_ret
        exact ⟨rfl, bt (hw3.alloc hw3.size _) k7⟩

set_option maxHeartbeats 400000 in
theorem strings_any (s : ByteArray) (how : Int) (w : World) (he : Env w) :
    Calls Tryd.prog 7 #[.string s, .int .i64 how] w fun e w' => e = .returned (.bool true) ∧ Below w.heap.size w w' := by
  by_cases hs : s.size ≤ 60
  · exact strings_walk s how w he hs
  · have hd : decide (60 < (s.size : Int)) = true := decide_eq_true (by omega)
    go_enter Tryd.func7, Tryd.ntmps7
    go_wp2
    go_ret
    exact ⟨rfl, Below.refl _ _⟩
end Go.Proofs.YthhfahfgfcicbaaDoor
