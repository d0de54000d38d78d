/- What atoms.termAt answers. -/
import Derived.Test.YtcjnhhbcleljmaaGreatDoorAtB
namespace Go.Proofs.YtcjnhhbcleljmaaGreatDoor.Sb
open Go.RowKit
open V

/-- The term that the sign at a place is. -/
def termAtR (xs : List Tm) (p : Nat) : Option Bb := match xs[p]? with
  | some x => termR (ktm x)
  | none => none
abbrev termV0 (t : Bb) : Value := .agg #[.string t.1, .int .i64 t.2.1, .int .i64 t.2.2.1, .string t.2.2.2]
/-- The answer: the term, and whether. -/
def termV : Option Bb → Value
  | some t => .tuple #[termV0 t, .bool true]
  | none => .tuple #[termV0 (⟨#[]⟩, zeroV), .bool false]
abbrev objTm : Obj := .cells #[.string ⟨#[]⟩, .int .i64 0, .int .i64 0, .string ⟨#[]⟩] 141
abbrev objTk' (x : Tm) : Obj := .cells #[.int .i64 x.1, .string x.2.1, .int .i64 x.2.2.1, .int .i64 x.2.2.2] 89
theorem head_34 {s : ByteArray} {r : List UInt8} (h : quotedGo s.data.toList = some r) : ∀ h : 0 < s.size, (s[0].toNat : Int) = 34 := by
  intro h0
  have h1 := list_cons s h0
  rw [h1] at h
  by_cases hc : s[0].toNat = 34
  · omega
  · rw [quotedGo_other hc] at h; cases h
set_option maxHeartbeats 4000000 in
set_option maxRecDepth 100000 in
theorem term_any (a : Option Addr) (n c : Nat) (xs : List Tm) (p : Nat) (v : Value) (w : World) (he : Env w) (hl : LiesT w a n c xs) (hz : ∀ x ∈ xs, x.2.1.size ≤ 20000) (H : Hid (termV (termAtR xs p) = v)) :
    Calls Tryz.prog 221 #[.slice a n c, .int .i64 (p : Int)] w fun e w' => e = .returned v ∧ Below w.heap.size w w' := by
  have hb0 : Below w.heap.size w (w.alloc objTm) := (Below.refl _ _).alloc (Nat.le_refl _) _
  have B0 := B4.new w (.string ⟨#[]⟩) (.int .i64 0) (.int .i64 0) (.string ⟨#[]⟩) 141
  have hl0 := hl.on hb0
  have he0 := he.on hb0
  by_cases hs : ∀ x, xs[p]? = some x → soloB (ktm x) = false
  · have HV : Hid (termV none = v) := by
      refine hide ?_
      rw [← unhide H]
      unfold termAtR
      cases hx : xs[p]? with
      | none => rfl
      | some x => simp only; rw [termR_none (hs x hx)]
    have HS := hide hs
    clear hs H hl he
    go_enter Tryz.func221, Tryz.ntmps221
    go_wp2_with fail
    refine (sign_none a n c xs p _ he0 hl0 hz HS).mono ?_
    rintro e w1 ⟨rfl, hb1⟩
    have hbx : Below w1.heap.size w1 (w1.alloc (objTk' (0, ⟨#[]⟩, 0, 0))) := (Below.refl _ _).alloc (Nat.le_refl _) _
    have B2 := (B0.on hb1).on hbx
    obtain ⟨z0, z1, z2, z3⟩ := B2.cells
    obtain ⟨f0, f1, f2, f3⟩ := B2.free
    have hbw := bt (bt hb0 hb1) hbx
    clear B0 B2 hl0 hz
    go_wp2_with fail
    rw [← unhide HV]
    refine bodyPost_ret (v := termV none) (by simp [results, Tryz.results221, go_sem, z0, z1, z2, z3, termV, termV0, zeroV]) rfl ?_
    exact ⟨rfl, below4 hbw (Nat.le_refl _) _ _ _ _⟩
  · obtain ⟨x, hx, hso⟩ : ∃ x, xs[p]? = some x ∧ soloB (ktm x) = true := by
      refine Classical.byContradiction (fun hc => hs (fun x hx => ?_))
      cases hb : soloB (ktm x) with
      | false => rfl
      | true => exact absurd ⟨x, hx, hb⟩ hc
    have HV : Hid (termV (termR (ktm x)) = v) := by
      refine hide ?_
      rw [← unhide H]
      unfold termAtR
      rw [hx]
    have hzx : x.2.1.size ≤ 20000 := hz x (List.mem_of_getElem? hx)
    have HX := hide hx
    have HSO := hide hso
    have hk := (solo_kind hso).1
    obtain ⟨k, s, l0, c0⟩ := x
    simp only [ktm] at hk hzx hso
    clear hs H hl he hx
    rcases hk with rfl | rfl | rfl | rfl | rfl
    · have HW : Hid (termV (some (⟨#[]⟩, 2, 0, s)) = v) := hide (by
        have ht := termR1 hso rfl
        simp only [bytes_of] at ht
        rw [← unhide HV]; exact congrArg termV ht.symm)
      clear HV hso
      go_enter Tryz.func221, Tryz.ntmps221
      go_wp2_with fail
      refine (sign_some a n c xs p _ _ he0 hl0 hz HX HSO).mono ?_
      rintro e w1 ⟨⟨i, j, rfl⟩, hb1⟩
      have hbx : Below w1.heap.size w1 (w1.alloc (objTk' (1, s, i, j))) := (Below.refl _ _).alloc (Nat.le_refl _) _
      have B2 := (B0.on hb1).on hbx
      obtain ⟨z0, z1, z2, z3⟩ := B2.cells
      obtain ⟨f0, f1, f2, f3⟩ := B2.free
      have hbw := bt (bt hb0 hb1) hbx
      clear B0 B2 hl0 hz
      go_wp2_with fail
      rw [← unhide HW]
      refine bodyPost_ret (v := termV (some (⟨#[]⟩, 2, 0, s))) (by simp [results, Tryz.results221, go_sem, z0, z1, z2, z3, termV, termV0]) rfl ?_
      exact ⟨rfl, below4 hbw (Nat.le_refl _) _ _ _ _⟩
    · have HW : Hid (termV (some (s, zeroV)) = v) := hide (by
        have ht := termR2 hso rfl
        simp only [bytes_of] at ht
        rw [← unhide HV]; exact congrArg termV ht.symm)
      clear HV hso
      go_enter Tryz.func221, Tryz.ntmps221
      go_wp2_with fail
      refine (sign_some a n c xs p _ _ he0 hl0 hz HX HSO).mono ?_
      rintro e w1 ⟨⟨i, j, rfl⟩, hb1⟩
      have hbx : Below w1.heap.size w1 (w1.alloc (objTk' (2, s, i, j))) := (Below.refl _ _).alloc (Nat.le_refl _) _
      have B2 := (B0.on hb1).on hbx
      obtain ⟨z0, z1, z2, z3⟩ := B2.cells
      obtain ⟨f0, f1, f2, f3⟩ := B2.free
      have hbw := bt (bt hb0 hb1) hbx
      clear B0 B2 hl0 hz
      go_wp2_with fail
      rw [← unhide HW]
      refine bodyPost_ret (v := termV (some (s, zeroV))) (by simp [results, Tryz.results221, go_sem, z0, z1, z2, z3, termV, termV0, zeroV]) rfl ?_
      exact ⟨rfl, below4 hbw (Nat.le_refl _) _ _ _ _⟩
    · obtain ⟨m, hm, ht⟩ := termR3 hso rfl
      have HW : Hid (termV (some (⟨#[]⟩, 1, m, ⟨#[]⟩)) = v) := hide (by rw [← unhide HV]; exact congrArg termV ht.symm)
      have HA : Hid (Lib.atoiAll s.data.toList = .ok m) := hide (atoi_same hm)
      clear HV hso hm ht
      go_enter Tryz.func221, Tryz.ntmps221
      go_wp2_with fail
      refine (sign_some a n c xs p _ _ he0 hl0 hz HX HSO).mono ?_
      rintro e w1 ⟨⟨i, j, rfl⟩, hb1⟩
      have hbx : Below w1.heap.size w1 (w1.alloc (objTk' (3, s, i, j))) := (Below.refl _ _).alloc (Nat.le_refl _) _
      have B2 := (B0.on hb1).on hbx
      have hbw := bt (bt hb0 hb1) hbx
      clear B0 hl0 hz
      go_wp2_with fail
      refine (atoi_ok s m _ hzx (unhide HA)).mono ?_
      rintro e w2 ⟨rfl, hb2⟩
      have B3 := B2.on hb2
      obtain ⟨z0, z1, z2, z3⟩ := B3.cells
      obtain ⟨f0, f1, f2, f3⟩ := B3.free
      have hbw2 := bt hbw hb2
      clear B2 B3
      go_wp2_with fail
      go_region
      all_goals
        go_wp2_with fail
        rw [← unhide HW]
        refine bodyPost_ret (v := termV (some (⟨#[]⟩, 1, m, ⟨#[]⟩))) (by simp [results, Tryz.results221, go_sem, z0, z1, z2, z3, termV, termV0]) rfl ?_
        exact ⟨rfl, (below4 hbw2 (Nat.le_refl _) _ _ _ _).drew⟩
    · obtain ⟨m, hm, ht⟩ := termR4 hso rfl
      have HW : Hid (termV (some (⟨#[]⟩, 3, 0, ⟨m.toArray⟩)) = v) := hide (by rw [← unhide HV]; exact congrArg termV ht.symm)
      have HA : Hid (∀ W, Calls Tryz.prog 147 #[.string s] W fun e w' => e = .returned (.tuple #[.agg #[.int .i64 3, .int .i64 0, .string ⟨m.toArray⟩], .int .i64 0]) ∧ Below W.heap.size W w') := by
        refine hide (fun W => (parse34 s W hzx (head_34 hm)).mono ?_)
        rintro e w' ⟨h, hb⟩
        unfold Parses at h
        rw [parse_same hm] at h
        exact ⟨h, hb⟩
      clear HV hso hm ht
      generalize (⟨m.toArray⟩ : ByteArray) = z at HW HA
      go_enter Tryz.func221, Tryz.ntmps221
      go_wp2_with fail
      refine (sign_some a n c xs p _ _ he0 hl0 hz HX HSO).mono ?_
      rintro e w1 ⟨⟨i, j, rfl⟩, hb1⟩
      have hbx : Below w1.heap.size w1 (w1.alloc (objTk' (4, s, i, j))) := (Below.refl _ _).alloc (Nat.le_refl _) _
      have B2 := (B0.on hb1).on hbx
      have hbw := bt (bt hb0 hb1) hbx
      clear B0 hl0 hz
      go_wp2_with fail
      refine (unhide HA _).mono ?_
      rintro e w2 ⟨rfl, hb2⟩
      have hby : Below w2.heap.size w2 (w2.alloc (.cells #[.int .i64 3, .int .i64 0, .string z] 139)) := (Below.refl _ _).alloc (Nat.le_refl _) _
      have B3 := (B2.on hb2).on hby
      obtain ⟨z0, z1, z2, z3⟩ := B3.cells
      obtain ⟨f0, f1, f2, f3⟩ := B3.free
      have hbw2 := bt (bt hbw hb2) hby
      clear B2 B3
      go_wp2_with fail
      rw [← unhide HW]
      refine bodyPost_ret (v := termV (some (⟨#[]⟩, 3, 0, z))) (by simp [results, Tryz.results221, go_sem, z0, z1, z2, z3, termV, termV0]) rfl ?_
      exact ⟨rfl, below4 hbw2 (Nat.le_refl _) _ _ _ _⟩
    · have HW : Hid (termV none = v) := hide (by rw [← unhide HV, termR5 rfl])
      clear HV hso
      go_enter Tryz.func221, Tryz.ntmps221
      go_wp2_with fail
      refine (sign_some a n c xs p _ _ he0 hl0 hz HX HSO).mono ?_
      rintro e w1 ⟨⟨i, j, rfl⟩, hb1⟩
      have hbx : Below w1.heap.size w1 (w1.alloc (objTk' (5, s, i, j))) := (Below.refl _ _).alloc (Nat.le_refl _) _
      have B2 := (B0.on hb1).on hbx
      obtain ⟨z0, z1, z2, z3⟩ := B2.cells
      obtain ⟨f0, f1, f2, f3⟩ := B2.free
      have hbw := bt (bt hb0 hb1) hbx
      clear B0 B2 hl0 hz
      go_wp2_with fail
      rw [← unhide HW]
      refine bodyPost_ret (v := termV none) (by simp [results, Tryz.results221, go_sem, z0, z1, z2, z3, termV, termV0, zeroV]) rfl ?_
      exact ⟨rfl, below4 hbw (Nat.le_refl _) _ _ _ _⟩
end Go.Proofs.YtcjnhhbcleljmaaGreatDoor.Sb
