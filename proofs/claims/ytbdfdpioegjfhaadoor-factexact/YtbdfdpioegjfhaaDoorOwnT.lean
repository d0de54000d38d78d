/- What the document's own functions Digits and ValueText return. -/
import Derived.Test.YtbdfdpioegjfhaaDoorOwnS
import Derived.Test.YtbdfdpioegjfhaaDoorOwnP
namespace Go.Proofs.YtbdfdpioegjfhaaDoor
open Go.RowKit
open V

theorem data_app2 (a b : ByteArray) : (a ++ b).data.toList = a.data.toList ++ b.data.toList := by
  rw [ByteArray.data_append]; simp
theorem dec_step_small {m : Nat} (h : m < 10) : Lib.decDigits m = [UInt8.ofNat (48 + m % 10)] := by
  rw [Lib.decDigits, dif_pos h, Nat.mod_eq_of_lt h]
theorem dec_step_big {m : Nat} (h : ¬ m < 10) : Lib.decDigits m = Lib.decDigits (m / 10) ++ [UInt8.ofNat (48 + m % 10)] := by
  rw [Lib.decDigits, dif_neg h]

/-- A slice of one byte, made a string. -/
theorem conv1 (w : World) (c : UInt8) (n : Int) (hn : n = c.toNat) : (convert 47 9 (.slice (some ⟨w.heap.size, 0, none⟩) 1 1)).run Tryd.prog (w.alloc (.cells #[.int .u8 n] 5)) = .ok (.string ⟨#[c]⟩) (w.alloc (.cells #[.int .u8 n] 5)) := by
  subst hn
  have hk : (w.alloc (.cells #[.int .u8 (c.toNat : Int)] 5)).heap[w.heap.size]? = some (.cells #[.int .u8 (c.toNat : Int)] 5) := heap_alloc_new w _
  exact run_convert_bytes_back (w.alloc (.cells #[.int .u8 (c.toNat : Int)] 5)) 47 9 5 ⟨w.heap.size, 0, none⟩ 1 [c] Tryd.underlying47 Tryd.underlying5 Tryd.underlying9 (fun j hj => by
    have : j = 0 := by simp at hj; omega
    subst this
    show World.cell? _ ⟨w.heap.size, 0, none⟩ = _
    rw [Lib.cell_of_heap hk]; rfl)
theorem digC (m : Int) (h0 : 0 ≤ m) : 48 + m % 10 = ((UInt8.ofNat (48 + m.toNat % 10)).toNat : Int) := by
  rw [digit_toNat (Nat.mod_lt _ (by decide))]
  omega
theorem dig_len (u : Int) (h0 : 0 ≤ u) (h1 : u ≤ 4611686018427387904) : (Lib.decDigits u.toNat).length ≤ 21 := by
  have := Lib.itoa_length_le u (by omega) (by omega)
  unfold Lib.itoa at this
  rw [if_neg (by omega)] at this
  exact this
theorem dig_pos (m : Nat) : 1 ≤ (Lib.decDigits m).length := by
  obtain ⟨c, r, h, _⟩ := dec_cons m
  rw [h]; simp

/-- One round of the loop. -/
theorem dig_round {u m : Int} {sb : ByteArray} (hm0 : 0 ≤ m) (hlen : (Lib.decDigits u.toNat).length ≤ 21)
    (h : Lib.decDigits u.toNat = Lib.decDigits m.toNat ++ sb.data.toList) :
    ((⟨#[UInt8.ofNat (48 + m.toNat % 10)]⟩ ++ sb : ByteArray).size ≤ 1000) ∧
    ((0 < m / 10 ∨ (⟨#[UInt8.ofNat (48 + m.toNat % 10)]⟩ ++ sb : ByteArray).size = 0) → Lib.decDigits u.toNat = Lib.decDigits (m / 10).toNat ++ (⟨#[UInt8.ofNat (48 + m.toNat % 10)]⟩ ++ sb : ByteArray).data.toList) ∧
    (m / 10 = 0 ∧ (⟨#[UInt8.ofNat (48 + m.toNat % 10)]⟩ ++ sb : ByteArray).size ≠ 0 → Lib.decDigits u.toNat = (⟨#[UInt8.ofNat (48 + m.toNat % 10)]⟩ ++ sb : ByteArray).data.toList) := by
  have hd : (⟨#[UInt8.ofNat (48 + m.toNat % 10)]⟩ ++ sb : ByteArray).data.toList = UInt8.ofNat (48 + m.toNat % 10) :: sb.data.toList := by
    rw [data_app2]; rfl
  have hs : (⟨#[UInt8.ofNat (48 + m.toNat % 10)]⟩ ++ sb : ByteArray).size = 1 + sb.size := ByteArray.size_append
  have hsl : sb.data.toList.length = sb.size := by simp
  have hl := congrArg List.length h
  rw [List.length_append, hsl] at hl
  have hp := dig_pos m.toNat
  have hdiv : (m / 10).toNat = m.toNat / 10 := by omega
  refine ⟨by omega, fun hc => ?_, fun hc => ?_⟩
  · have hb : ¬ m.toNat < 10 := by omega
    rw [hd, hdiv, h, dec_step_big hb]; simp
  · have hb : m.toNat < 10 := by omega
    rw [hd, h, dec_step_small hb]; rfl

/-- The loop's measure: twice the number, and one more where nothing is written yet. -/
def digM (n s : Value) : Nat := 2 * (intOf n).toNat + (match s with | .string sb => (if sb.size = 0 then 1 else 0) | _ => 0)

set_option maxHeartbeats 1000000 in
set_option maxRecDepth 20000 in
theorem digits_pos (u : Int) (w : World) (h0 : 0 ≤ u) (hu : u ≤ 4611686018427387904) :
    Calls Tryd.prog 52 #[.int .i64 u] w fun e w' => e = .returned (.string ⟨(Lib.decDigits u.toNat).toArray⟩) ∧ Below w.heap.size w w' := by
  have t0 : decide (u < 0) = false := decide_eq_false (by omega)
  go_enter Tryd.func52, Tryd.ntmps52
  go_wp2
  go_loopw [0, 3] (fun n s wr => ∃ (m : Int) (sb : ByteArray), 0 ≤ m ∧ m ≤ 4611686018427387904 ∧ n = .int .i64 m ∧ s = .string sb ∧ sb.size ≤ 1000 ∧ Below w.heap.size w wr ∧ Hid ((0 < m ∨ sb.size = 0) → Lib.decDigits u.toNat = Lib.decDigits m.toNat ++ sb.data.toList) ∧ Hid (m = 0 ∧ sb.size ≠ 0 → Lib.decDigits u.toNat = sb.data.toList)) (fun n s _ => digM n s)
  case atStart => exact ⟨u, ⟨#[]⟩, h0, hu, rfl, rfl, by decide, Below.refl _ _, (by intro _; simp), (by intro h; exact absurd rfl h.2)⟩
  case round =>
    obtain ⟨m, sb, hm0, hm1, rfl, rfl, hsb, hbw, H1, H2⟩ := hrel
    have hlen := dig_len u h0 hu
    clear h0 hu t0
    have hcv := conv1 wr _ _ (digC m hm0)
    have hsz : (⟨#[UInt8.ofNat (48 + m.toNat % 10)]⟩ ++ sb : ByteArray).size = 1 + sb.size := ByteArray.size_append
    by_cases hp : 0 < m
    · have t1 : decide (0 < m) = true := decide_eq_true hp
      obtain ⟨r1, r2, r3⟩ := dig_round hm0 hlen (unhide H1 (Or.inl hp))
      generalize UInt8.ofNat (48 + m.toNat % 10) = c at hcv r1 r2 r3 hsz
      have R2 := hide r2
      have R3 := hide r3
      have R0 := hide hsz
      clear r2 r3 hlen hsz
      go_wp2
      go_roundw
      case rel => exact ⟨m / 10, _, by omega, by omega, rfl, rfl, r1, hbw.alloc hbw.size _, R2, R3⟩
      case measure =>
        have := unhide R0
        simp only [digM, intOf]
        rw [if_neg (by omega)]
        omega
    · by_cases hz : sb.size = 0
      · have t1 : decide (0 < m) = false := decide_eq_false hp
        have t2 : ((sb.size : Int) == 0) = true := by rw [beq_iff_eq]; omega
        obtain ⟨r1, r2, r3⟩ := dig_round hm0 hlen (unhide H1 (Or.inr hz))
        generalize UInt8.ofNat (48 + m.toNat % 10) = c at hcv r1 r2 r3 hsz
        have R2 := hide r2
        have R3 := hide r3
        have R0 := hide hsz
        have HZ := hide hz
        clear r2 r3 hlen hsz hz
        go_wp2
        go_roundw
        case rel => exact ⟨m / 10, _, by omega, by omega, rfl, rfl, r1, hbw.alloc hbw.size _, R2, R3⟩
        case measure =>
          have := unhide R0
          have := unhide HZ
          simp only [digM, intOf]
          rw [if_neg (by omega), if_pos (by omega)]
          omega
      · have t1 : decide (0 < m) = false := decide_eq_false hp
        have t2 : ((sb.size : Int) == 0) = false := by rw [beq_eq_false_iff_ne]; omega
        have HF := hide (unhide H2 ⟨by omega, hz⟩)
        clear hlen hsz hcv
        go_wp2
        go_ret
        exact ⟨ret_str (by rw [unhide HF, str_of]), hbw⟩

set_option maxHeartbeats 1000000 in
theorem digits_any (n : Int) (w : World) (h0 : -4611686018427387904 ≤ n) (h1 : n ≤ 4611686018427387904) :
    Calls Tryd.prog 52 #[.int .i64 n] w fun e w' => e = .returned (.string ⟨(Lib.itoa n).toArray⟩) ∧ Below w.heap.size w w' := by
  by_cases hn : n < 0
  · have t0 : decide (n < 0) = true := decide_eq_true hn
    have HI : Hid ((⟨#[45]⟩ ++ ⟨(Lib.decDigits (-n).toNat).toArray⟩ : ByteArray) = ⟨(Lib.itoa n).toArray⟩) := by
      show _ = _
      have e : Lib.itoa n = 45 :: Lib.decDigits (-n).toNat := by
        unfold Lib.itoa
        rw [if_pos hn, show n.natAbs = (-n).toNat by omega]
      rw [e]
      apply ByteArray.ext
      rw [ByteArray.data_append]
      simp
    go_enter Tryd.func52, Tryd.ntmps52
    go_wp2_with (go_at_call 52; refine (digits_pos _ _ (by omega) (by omega)).mono ?_; rintro e w1 ⟨rfl, k1⟩; refine Hid.out ?_)
    have hdd : (⟨(Lib.decDigits (-n).toNat).toArray⟩ : ByteArray).size ≤ 1000 := by
      have := dig_len (-n) (by omega) (by omega)
      show (Lib.decDigits (-n).toNat).toArray.size ≤ _
      simp; omega
    generalize (⟨(Lib.decDigits (-n).toNat).toArray⟩ : ByteArray) = dd at HI hdd ⊢
    refine Lib.hid ?_
    go_wp2
    go_ret
    exact ⟨ret_str (unhide HI), k1⟩
  · have e : Lib.itoa n = Lib.decDigits n.toNat := by
      unfold Lib.itoa
      rw [if_neg hn]
    rw [e]
    exact digits_pos n w (by omega) h1

theorem size_app2 (a b : ByteArray) : (a ++ b).size = a.size + b.size := ByteArray.size_append
theorem data_one2 (s : ByteArray) (k : Nat) (h : k < s.size) : (s.extract k (k + 1)).data.toList = [s[k]] := by
  rw [Lib.extract_data, List.drop_eq_getElem_cons (by simpa using h), show k + 1 - k = 1 by omega]
  rfl
theorem size_one2 (s : ByteArray) (k : Nat) (h : k < s.size) : (s.extract k (k + 1)).size = 1 := by
  have e : (s.extract k (k + 1)).data.toList.length = (s.extract k (k + 1)).size := by rw [Array.length_toList]; rfl
  rw [← e, data_one2 s k h]; rfl

set_option maxHeartbeats 1000000 in
theorem refText_any (k n : Int) (s t : ByteArray) (w : World) (hr : rightB k n s.data.toList = true) (ht : t.data.toList = textL k n s.data.toList) (hs : s.size ≤ 1000) :
    Calls Tryd.prog 39 #[.agg #[.int .i64 k, .int .i64 n, .string s]] w fun e w' => e = .returned (.string t) ∧ Below w.heap.size w w' := by
  have hB : Below w.heap.size w (w.alloc (.cells #[.int .i64 k, .int .i64 n, .string s] 44)) := (Below.refl _ _).alloc (Nat.le_refl _) _
  by_cases k1 : k = 1
  · subst k1
    have hb : -4611686018427387904 ≤ n ∧ n ≤ 4611686018427387904 := by simp [rightB] at hr; exact hr.2
    obtain ⟨n0, n1⟩ := hb
    have HT : Hid ((⟨(Lib.itoa n).toArray⟩ : ByteArray) = t) := by
      show _ = _
      have e : textL 1 n s.data.toList = Lib.itoa n := by simp [textL]
      rw [← e, ← ht, str_of]
    clear hr ht
    go_enter Tryd.func39, Tryd.ntmps39
    go_wp2_with (go_at_call 52; refine (digits_any _ _ n0 n1).mono ?_; rintro e w1 ⟨rfl, k1⟩)
    go_ret
    exact ⟨ret_str (unhide HT), bt hB k1⟩
  · have b1 : (k == 1) = false := beq_eq_false_iff_ne.2 k1
    by_cases k2 : k = 2
    · subst k2
      have HT : Hid (s = t) := by
        show _ = _
        have e : textL 2 n s.data.toList = s.data.toList := by simp [textL]
        rw [e] at ht
        rw [← str_of s, ← str_of t, ht]
      clear hr ht k1
      go_enter Tryd.func39, Tryd.ntmps39
      go_wp2
      go_ret
      exact ⟨ret_str (unhide HT), hB⟩
    · have b2 : (k == 2) = false := beq_eq_false_iff_ne.2 k2
      have e : textL k n s.data.toList = quoteL s.data.toList := by simp [textL, k1, k2]
      rw [e] at ht
      have HT := hide ht
      clear hr ht k1 k2 e
      go_enter Tryd.func39, Tryd.ntmps39
      go_wp2
      go_loop [3, 4] (fun t i => ∃ (j : Nat) (tk : ByteArray), j ≤ s.size ∧ t = .string tk ∧ i = .int .i64 j ∧ tk.size ≤ 1 + 2 * j ∧ Hid (tk.data.toList = 34 :: escL (s.data.toList.take j))) (fun _ i => s.size - (intOf i).toNat)
      case atStart => exact ⟨0, ⟨#[34]⟩, by omega, rfl, rfl, by decide, by rfl⟩
      case round =>
        obtain ⟨j, tk, hj, rfl, rfl, htk, HK⟩ := hrel
        by_cases hlt : j < s.size
        · have hse := size_one2 s j hlt
          by_cases h3 : (s[j].toNat : Int) = 34
          · have b3 : ((s[j].toNat : Int) == 34) = true := by simp [h3]
            have HT' : Hid ((tk ++ ⟨#[92]⟩ ++ s.extract j (j + 1)).data.toList = 34 :: escL (s.data.toList.take (j + 1))) := by
              show _ = _
              rw [data_app2, data_app2, data_one2 s j hlt, take_snoc s j hlt, escL_append, escL_one_t (escB_t (Or.inl h3)), unhide HK]; simp
            have HZ : Hid ((tk ++ ⟨#[92]⟩ ++ s.extract j (j + 1)).size ≤ 1 + 2 * (j + 1)) := by
              show _ ≤ _
              rw [size_app2, size_app2, hse]; show tk.size + 1 + 1 ≤ _; omega
            clear h3 hse
            go_wp2
            exact ⟨⟨j + 1, _, by omega, rfl, by go_num, unhide HZ, HT'⟩, by simp [intOf]; omega⟩
          · have b3 : ((s[j].toNat : Int) == 34) = false := by simp [h3]
            by_cases h4 : (s[j].toNat : Int) = 92
            · have b4 : ((s[j].toNat : Int) == 92) = true := by simp [h4]
              have HT' : Hid ((tk ++ ⟨#[92]⟩ ++ s.extract j (j + 1)).data.toList = 34 :: escL (s.data.toList.take (j + 1))) := by
                show _ = _
                rw [data_app2, data_app2, data_one2 s j hlt, take_snoc s j hlt, escL_append, escL_one_t (escB_t (Or.inr h4)), unhide HK]; simp
              have HZ : Hid ((tk ++ ⟨#[92]⟩ ++ s.extract j (j + 1)).size ≤ 1 + 2 * (j + 1)) := by
                show _ ≤ _
                rw [size_app2, size_app2, hse]; show tk.size + 1 + 1 ≤ _; omega
              clear h3 h4 hse
              go_wp2
              exact ⟨⟨j + 1, _, by omega, rfl, by go_num, unhide HZ, HT'⟩, by simp [intOf]; omega⟩
            · have b4 : ((s[j].toNat : Int) == 92) = false := by simp [h4]
              have HT' : Hid ((tk ++ s.extract j (j + 1)).data.toList = 34 :: escL (s.data.toList.take (j + 1))) := by
                show _ = _
                rw [data_app2, data_one2 s j hlt, take_snoc s j hlt, escL_append, escL_one_f (escB_f (by omega)), unhide HK]; simp
              have HZ : Hid ((tk ++ s.extract j (j + 1)).size ≤ 1 + 2 * (j + 1)) := by
                show _ ≤ _
                rw [size_app2, hse]; omega
              clear h3 h4 hse
              go_wp2
              exact ⟨⟨j + 1, _, by omega, rfl, by go_num, unhide HZ, HT'⟩, by simp [intOf]; omega⟩
        · have HF : Hid ((tk ++ ⟨#[34]⟩ : ByteArray) = t) := by
            show _ = _
            have e : (tk ++ ⟨#[34]⟩ : ByteArray).data.toList = t.data.toList := by
              rw [data_app2, unhide HK, take_all s j (by omega), unhide HT]; rfl
            rw [← str_of (tk ++ ⟨#[34]⟩ : ByteArray), ← str_of t, e]
          go_wp2
          go_ret
          exact ⟨ret_str (unhide HF), hB⟩
end Go.Proofs.YtbdfdpioegjfhaaDoor
