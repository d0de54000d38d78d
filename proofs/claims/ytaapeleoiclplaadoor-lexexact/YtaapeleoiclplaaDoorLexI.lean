/- What the document's own functions single and sign answer. -/
import Derived.Test.YtaapeleoiclplaaDoorLexH
namespace Go.Proofs.YtaapeleoiclplaaDoor
open Go.RowKit
open V

namespace V
/-- Kind and length, 0 and 0 where no sign begins. -/
def signR (l : List UInt8) : Int × Nat := match signL l with
  | some p => p
  | none => (0, 0)
theorem signR_some {l : List UInt8} {k : Int} {n : Nat} (h : signL l = some (k, n)) : signR l = (k, n) := by unfold signR; rw [h]
theorem signR_none {l : List UInt8} (h : signL l = none) : signR l = (0, 0) := by unfold signR; rw [h]
theorem tw_from {p : UInt8 → Bool} {r : List UInt8} {k : Nat} (hk : k < r.length) (h : (r.take k).all p = true) (hp : p r[k] = false) : (r.takeWhile p).length = k := tw_all hk h hp
end V

theorem sing_byte (c : UInt8) : singB c = ([40, 41, 91, 93, 44, 46, 58, 47, 43, 42, 45, 61, 60] : List UInt8).contains c := rfl
def ofB : ByteArray := ⟨#[40, 41, 91, 93, 44, 46, 58, 47, 43, 42, 45, 61, 60]⟩

set_option maxHeartbeats 2000000 in
set_option maxRecDepth 100000 in
theorem single_any (c : UInt8) (w : World) :
    Calls Tryd.prog 42 #[.int .u8 c.toNat] w fun e w' => e = .returned (.bool (singB c)) ∧ w' = w := by
  obtain ⟨z, hz⟩ : ∃ z : ByteArray, z = ⟨#[40, 41, 91, 93, 44, 46, 58, 47, 43, 42, 45, 61, 60]⟩ := ⟨_, rfl⟩
  have hzs : z.size = 13 := by rw [hz]; rfl
  have hzl : Hid (singB c = z.data.toList.contains c) := by
    show _ = _
    rw [hz]; rfl
  go_enter Tryd.func42, Tryd.ntmps42
  go_wp2
  rw [← hz]
  clear hz
  go_loop [4] (fun i => ∃ k : Nat, k ≤ z.size ∧ i = .int .i64 k ∧ Hid ((z.data.toList.take k).contains c = false)) (fun i => z.size - (intOf i).toNat)
  case atStart => exact ⟨0, Nat.zero_le _, rfl, by rfl⟩
  case round =>
    obtain ⟨k, hk, rfl, HA⟩ := hrel
    by_cases hlt : k < z.size
    · cases hc : ((z[k].toNat : Int) == (c.toNat : Int))
      · have HA' : Hid ((z.data.toList.take (k + 1)).contains c = false) := by
          show _ = _
          rw [take_snoc z k hlt]
          have h1 := unhide HA
          have h2 : ¬ c = z[k] := by
            intro e
            rw [← e] at hc
            simp at hc
          simp only [List.contains_eq_any_beq, List.any_append, List.any_cons, List.any_nil, Bool.or_false] at h1 ⊢
          rw [h1]; simp [h2]
        go_wp2
        go_round
        case rel => exact ⟨k + 1, by omega, by go_num, HA'⟩
        case measure => simp [intOf]; omega
      · have HR : Hid (singB c = true) := by
          show _ = _
          rw [unhide hzl]
          have e : z[k] = c := UInt8.toNat_inj.1 (by have := beq_iff_eq.1 hc; omega)
          have : z.data.toList.contains z[k] = true := by
            rw [List.contains_eq_any_beq, List.any_eq_true]
            exact ⟨z[k], List.mem_iff_getElem.2 ⟨k, by simpa using hlt, rfl⟩, by simp⟩
          rw [e] at this; exact this
        go_wp2
        go_ret
        exact ⟨ret_bool (unhide HR), rfl⟩
    · have HR : Hid (singB c = false) := by
        show _ = _
        rw [unhide hzl]
        have := unhide HA
        rw [take_all z k (by omega)] at this
        exact this
      go_wp2
      go_ret
      exact ⟨ret_bool (unhide HR), rfl⟩

theorem refDig_byte (c : UInt8) (w : World) : Calls Tryd.prog 41 #[.int .u8 c.toNat] w fun e w' => e = .returned (.bool (digC c)) ∧ w' = w := refDigit_byte c w
theorem twoP (s : ByteArray) (h : 1 < s.size) : (s.extract 0 2).data.toList = [s[0], s[1]] := by
  rw [ext_take, list_cons s (by omega)]
  have h1 := list_cons (s.extract 1 s.size) (by rw [ext_size s (by omega)]; omega)
  rw [h1]
  have e : (s.extract 1 s.size)[0]'(by rw [ext_size s (by omega)]; omega) = s[1] := by simp [ByteArray.getElem_extract]
  rw [e]; rfl
end Go.Proofs.YtaapeleoiclplaaDoor
