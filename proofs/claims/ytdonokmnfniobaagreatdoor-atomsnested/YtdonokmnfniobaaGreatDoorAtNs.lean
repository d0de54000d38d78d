/- The walk of constablelaw10.AtomsNested: it answers true, whatever the steps. -/
import Derived.Test.YtdonokmnfniobaaGreatDoorAtBk
import Derived.Test.YtdonokmnfniobaaGreatDoorBasE
namespace Go.Proofs.YtdonokmnfniobaaGreatDoor.Sb
open Go.RowKit
open V
open Ex (RowO LiesO flatO)

theorem lies_lit {w : World} {b : Nat} {xs : List Bb} {T : TypeId} (h : w.heap[b]? = some (.cells (flatB xs).toArray T)) : Lies w (some ⟨b, 0, none⟩) xs.length xs.length xs := by
  refine ⟨Or.inr ⟨b, 0, rfl, (Array.getElem?_eq_some_iff.1 h).1, fun i v hv => ?_⟩, rfl, (fun h => by cases h), Nat.le_refl _⟩
  obtain ⟨h0, h1, h2, h3⟩ := flatB_get xs i v hv
  rw [Lib.cell_of_heap h, Lib.cell_of_heap h, Lib.cell_of_heap h, Lib.cell_of_heap h]
  simpa using ⟨h0, h1, h2, h3⟩
theorem liesO_take {w : World} {b o : Nat} {n c : Nat} {xs : List Oo} (h : LiesO w (some ⟨b, o, none⟩) n c xs) {p k : Nat} (hpk : p + k ≤ n) : LiesO w (some ⟨b, o + p * 5, none⟩) k (c - p) ((xs.drop p).take k) := by
  refine ⟨h.row.cut p k, ?_, (fun h => by cases h), ?_⟩
  · rw [List.length_take, List.length_drop]
    have := h.len
    omega
  · have := h.cap
    omega
theorem text_k (n : ByteArray) (a : Option Addr) (len cap : Nat) (ts : List Bb) (s : ByteArray) (w : World) (he : Env w) (hA : Lies w a len cap ts) (H : Hid (rightA n ts = true)) (HS : Hid ((⟨(textA (n.data.toList, ts)).toArray⟩ : ByteArray) = s)) :
    Calls Tryz.prog 7 #[.agg #[.string n, .slice a len cap]] w fun e w' => e = .returned (.tuple #[.string s, .int .i64 0]) ∧ Below w.heap.size w w' ∧ ∀ (b o : Nat) (v : Value), w.cell? ⟨b, o, none⟩ = some v → w'.cell? ⟨b, o, none⟩ = some v := by
  refine (text_right n a len cap ts s w he hA H HS).mono ?_
  rintro e w' ⟨rfl, hb⟩
  exact ⟨rfl, hb, fun b o v h => cell_on hb h⟩
theorem expr_k (a : Option Addr) (len cap : Nat) (xs : List Oo) (s : ByteArray) (w : World) (he : Env w) (hA : LiesO w a len cap xs) (hL : ∀ x ∈ xs, LtO x) (H : Hid (exprB xs = true)) (HS : Hid ((⟨(textX xs).toArray⟩ : ByteArray) = s)) :
    Calls Tryz.prog 12 #[.slice a len cap] w fun e w' => e = .returned (.tuple #[.string s, .int .i64 0]) ∧ Below w.heap.size w w' ∧ ∀ (b o : Nat) (v : Value), w.cell? ⟨b, o, none⟩ = some v → w'.cell? ⟨b, o, none⟩ = some v := by
  refine (expr_right a len cap xs s w he hA hL H HS).mono ?_
  rintro e w' ⟨rfl, hb⟩
  exact ⟨rfl, hb, fun b o v h => cell_on hb h⟩
set_option maxHeartbeats 8000000 in
set_option maxRecDepth 100000 in
theorem nested_law (al : Option Addr) (ll lc : Nat) (xs : List Oo) (w : World) (he : Env w) (hX : LiesO w al ll lc xs) :
    Calls Tryz.prog 4 #[.slice al ll lc] w fun e w' => e = .returned (.bool true) ∧ Below w.heap.size w w' := by
  have F1 := hide (oheavy_any al ll lc xs w hX.row hX.le hX.ge)
  go_enter Tryz.func4, Tryz.ntmps4
  go_wp2_with fail
  refine (unhide F1).mono ?_
  rintro e w1 ⟨rfl | ⟨rfl, hl1, ht1⟩, hb1⟩
  · go_wp2_with fail
    go_ret
    exact ⟨rfl, hb1⟩
  have hL := hide ht1
  have hx1 := hX.on hb1
  have he1 := he.on hb1
  have F2 := refExpr_any al ll lc xs w1 hx1.row hx1.le hx1.ge ht1
  clear F1 ht1
  cases hex : exprB xs with
  | false =>
    rw [hex] at F2
    have F2' := hide F2
    clear F2 hex hX
    go_wp2_with fail
    refine (unhide F2').mono ?_
    rintro e w2 ⟨rfl, hb2⟩
    go_wp2_with fail
    go_ret
    exact ⟨rfl, bt hb1 hb2⟩
  | true =>
    rw [hex] at F2
    have F2' := hide F2
    have HEX := hide hex
    obtain ⟨i, o, hio⟩ : ∃ i o, xs = i ++ [o] := by
      have hne : xs ≠ [] := by rintro rfl; cases hex
      exact ⟨_, _, (List.dropLast_concat_getLast hne).symm⟩
    have hlen := hX.len
    rw [hio, List.length_append, List.length_singleton] at hlen
    obtain ⟨N, hN⟩ : ∃ N, N = i.length := ⟨_, rfl⟩
    rw [← hN] at hlen
    have hoN : xs[N]? = some o := by rw [hio, hN]; simp
    have hxl := textX_len hex
    obtain ⟨sX, hsX⟩ : ∃ s : ByteArray, (⟨(textX xs).toArray⟩ : ByteArray) = s := ⟨_, rfl⟩
    have HSX := hide hsX
    have hsz : sX.size ≤ 1900 := by rw [← hsX, size_of]; exact hxl
    have hro := (expr_iff.1 hex).2.1 o (by rw [hio]; simp)
    subst hlen
    obtain ⟨b, ob, ha⟩ : ∃ b ob, al = some ⟨b, ob, none⟩ := by
      rcases hX.row with h | ⟨b, ob, h, -⟩
      · rw [h] at hoN; cases hoN
      · exact ⟨b, ob, h⟩
    subst ha
    have hNx : N < xs.length := (List.getElem?_eq_some_iff.1 hoN).1
    have hNe : xs[N] = o := (List.getElem?_eq_some_iff.1 hoN).2
    cases hp : pushO o with
    | true =>
      obtain ⟨hi0, hrt, htx⟩ := nested_push hex hio hp
      have hN0 : N = 0 := by rw [hN, hi0]; rfl
      subst hN0
      have hsame := push_same hro hp
      have hkk : o.1 = 1 ∨ o.1 = 2 := by simpa [pushO] using hp
      obtain ⟨tA, htA⟩ : ∃ s : ByteArray, (⟨(textA ([112], [(o.2.1, o.2.2)])).toArray⟩ : ByteArray) = s := ⟨_, rfl⟩
      have HTA : Hid ((⟨(textA ((⟨#[112]⟩ : ByteArray).data.toList, [(o.2.1, o.2.2)])).toArray⟩ : ByteArray) = tA) := hide htA
      have HRA : Hid (rightA ⟨#[112]⟩ [(o.2.1, o.2.2)] = true) := hide (by
        rw [right_same, hsame]
        simp only [V.rightA, List.all_cons, List.all_nil, hrt]
        rfl)
      have HCMP : Hid (tA = ((⟨#[112, 40]⟩ : ByteArray) ++ sX) ++ ⟨#[41]⟩) := hide (by
        refine bytes_inj ?_
        rw [← htA, ← hsX, cat_list, cat_list, hsame, text_one, htx]
        simp)
      have c := hX.row.up (i := 0) hNx
      obtain ⟨b', ob', ha', hbl, c0', c1', c2', c3', c4'⟩ := c
      simp only [Option.some.injEq, Addr.mk.injEq, and_true] at ha'
      obtain ⟨rfl, rfl⟩ := ha'
      rw [hNe] at c0' c1' c2' c3' c4'
      simp only [Nat.zero_mul, Nat.add_zero] at c0' c1' c2' c3' c4'
      simp only [Nat.zero_add] at hl1
      have c0 := cell_on hb1 c0'
      have c1 := cell_on hb1 c1'
      have c2 := cell_on hb1 c2'
      have c3 := cell_on hb1 c3'
      have c4 := cell_on hb1 c4'
      have hc1 := hX.cap
      clear hio hsX hi0 htx hsame hex hoN hp hro htA hN hX hxl hNe hNx F2 c0' c1' c2' c3' c4' hrt
      obtain ⟨ok, ov, ox⟩ := o
      simp only at hkk c0 c1 c2 c3 c4 HTA HRA
      have hk3 : decide (ok < 3) = true := decide_eq_true (by omega)
      go_wp2_with fail
      refine (unhide F2').mono ?_
      rintro e w2 ⟨rfl, hb2⟩
      have d0 := cell_on hb2 c0
      have d1 := cell_on hb2 c1
      have d2 := cell_on hb2 c2
      have d3 := cell_on hb2 c3
      have d4 := cell_on hb2 c4
      have hbw2 := bt hb1 hb2
      have he2 := he1.on hb2
      have hx2 := hx1.on hb2
      clear c0 c1 c2 c3 c4 hb2 hx1 he1 F2'
      go_wp2_with fail
      refine (expr_right (some ⟨b, ob, none⟩) 1 lc xs sX _ he2 hx2 (unhide hL) HEX HSX).mono ?_
      rintro e w3 ⟨rfl, hb3⟩
      have e0 := cell_on hb3 d0
      have e1 := cell_on hb3 d1
      have e2 := cell_on hb3 d2
      have e3 := cell_on hb3 d3
      have e4 := cell_on hb3 d4
      have hbw3 := bt hbw2 hb3
      have he3 := he2.on hb3
      clear d0 d1 d2 d3 d4 hb3 hbw2 he2 hx2
      have g0 := cell_on (show Below w3.heap.size w3 (w3.drew.alloc (bxT (ov, ox))) from (Below.refl _ _).drew.alloc (Nat.le_refl _) _) e0
      have g1 := cell_on (show Below w3.heap.size w3 (w3.drew.alloc (bxT (ov, ox))) from (Below.refl _ _).drew.alloc (Nat.le_refl _) _) e1
      have g2 := cell_on (show Below w3.heap.size w3 (w3.drew.alloc (bxT (ov, ox))) from (Below.refl _ _).drew.alloc (Nat.le_refl _) _) e2
      have g3 := cell_on (show Below w3.heap.size w3 (w3.drew.alloc (bxT (ov, ox))) from (Below.refl _ _).drew.alloc (Nat.le_refl _) _) e3
      have g4 := cell_on (show Below w3.heap.size w3 (w3.drew.alloc (bxT (ov, ox))) from (Below.refl _ _).drew.alloc (Nat.le_refl _) _) e4
      have hlit : Lies (w3.drew.alloc (bxT (ov, ox))) (some ⟨w3.heap.size, 0, none⟩) 1 1 [(ov, ox)] := lies_lit (xs := [(ov, ox)]) (T := 54) (heap_alloc_new w3.drew (bxT (ov, ox)))
      have hbd : Below w.heap.size w (w3.drew.alloc (bxT (ov, ox))) := hbw3.drew.alloc hbw3.size _
      have hed : Env (w3.drew.alloc (bxT (ov, ox))) := he.on hbd
      go_wp2_with fail
      go_region_held3 (fun w' => w'.cell? ⟨b, ob, none⟩ = some (.int .i64 ok) ∧ w'.cell? ⟨b, ob + 1, none⟩ = some (.string ov) ∧ w'.cell? ⟨b, ob + 2, none⟩ = some (.int .i64 ox.1) ∧ w'.cell? ⟨b, ob + 3, none⟩ = some (.int .i64 ox.2.1) ∧ w'.cell? ⟨b, ob + 4, none⟩ = some (.string ox.2.2)) (go_keep) (first | (go_at_call 7; refine (text_k ⟨#[112]⟩ _ 1 1 [(ov, ox)] tA _ hed hlit HRA HTA).mono ?_; rintro e w7 ⟨rfl, hb7, hk7⟩))
      have hbw7 := bt hbd hb7
      have he7 := he.on hbw7
      clear e0 e1 e2 e3 e4 g0 g1 g2 g3 g4 hlit hbd hed hb7 hk7
      have hcmp : tA.toList = (((⟨#[112, 40]⟩ : ByteArray) ++ sX) ++ ⟨#[41]⟩).toList := by rw [unhide HCMP]
      have nb1 : ¬ 9223372036854775807 < (⟨#[112, 40]⟩ : ByteArray).size + sX.size := by rw [show (⟨#[112, 40]⟩ : ByteArray).size = 2 from rfl]; omega
      go_wp2_with fail
      refine (wakes_any _ he7).mono ?_
      rintro e w8 ⟨rfl, hb8⟩
      go_wp2_with fail
      go_ret
      exact ⟨rfl, bt hbw7 hb8⟩
    | false =>
      obtain ⟨x, y, hxy, hpart, hx1l, hy1l, hex', hey', htx⟩ := nested hex hio hp
      have hko : o.1 = 3 ∨ o.1 = 4 ∨ o.1 = 5 := by
        rcases right_kind hro with h | ⟨_, h⟩
        · rw [hp] at h; cases h
        · simpa [opO] using h
      obtain ⟨M, hM⟩ : ∃ M, M = x.length := ⟨_, rfl⟩
      obtain ⟨P, hP⟩ : ∃ P, P = y.length := ⟨_, rfl⟩
      have hNMP : N = M + P := by rw [hN, hxy, List.length_append, hM, hP]
      subst hNMP
      have HPART : Hid (partR xs ((M : Int) + (P : Int) - 1) = (M : Int)) := by
        refine hide ?_
        have hll : xs.length = M + P + 1 := by rw [hio, List.length_append, ← hN]; rfl
        unfold partR
        rw [if_pos ⟨hex, by omega, by rw [hll]; omega⟩, show ((M : Int) + (P : Int) - 1).toNat = xs.length - 2 by omega, hpart, hM]
      obtain ⟨s1, hs1⟩ : ∃ s : ByteArray, (⟨(textX x).toArray⟩ : ByteArray) = s := ⟨_, rfl⟩
      obtain ⟨s2, hs2⟩ : ∃ s : ByteArray, (⟨(textX y).toArray⟩ : ByteArray) = s := ⟨_, rfl⟩
      have HS1 := hide hs1
      have HS2 := hide hs2
      have HE1 := hide hex'
      have HE2 := hide hey'
      have hz1 : s1.size ≤ 1900 := by rw [← hs1, size_of]; exact textX_len hex'
      have hz2 : s2.size ≤ 1900 := by rw [← hs2, size_of]; exact textX_len hey'
      have hxe : (xs.drop 0).take M = x := by rw [hio, hxy, hM]; simp
      have hye : (xs.drop M).take P = y := by rw [hio, hxy, hM, hP]; simp
      have hL1 := hide (fun q hq => unhide hL q (by rw [hio, hxy]; simp only [List.mem_append]; exact Or.inl (Or.inl hq)) : ∀ q ∈ x, LtO q)
      have hL2 := hide (fun q hq => unhide hL q (by rw [hio, hxy]; simp only [List.mem_append]; exact Or.inl (Or.inr hq)) : ∀ q ∈ y, LtO q)
      have hcl := hX.cap
      have HCMP : Hid (∀ mk : ByteArray, (⟨#[markO o.1]⟩ : ByteArray) = mk → sX = ((((((⟨#[40]⟩ : ByteArray) ++ s1) ++ ⟨#[32]⟩) ++ mk) ++ ⟨#[32]⟩) ++ s2) ++ ⟨#[41]⟩) := hide (fun mk hmk => by
        refine bytes_inj ?_
        rw [mark_cat s1 s2 mk o.1 hmk o rfl, ← hsX, ← hs1, ← hs2, htx])
      obtain ⟨b', ob', ha', hbl, c0', -⟩ := hX.row.up (i := M + P) hNx
      simp only [Option.some.injEq, Addr.mk.injEq, and_true] at ha'
      obtain ⟨rfl, rfl⟩ := ha'
      rw [hNe] at c0'
      have c0 := cell_on hb1 c0'
      have hM1 : 1 ≤ M := by omega
      have hP1 : 1 ≤ P := by omega
      have HX0 := hide hX
      have HXE := hide hxe
      have HYE := hide hye
      clear hio hsX htx hex hoN hp hro hxl hNe hNx F2 c0' hxy hpart hx1l hy1l hex' hey' hs1 hs2 hxe hye hM hP hX hN
      obtain ⟨ok, ov, ox⟩ := o
      simp only at hko c0 HCMP
      rcases hko with rfl | rfl | rfl
      all_goals
        have hcm := unhide HCMP _ rfl
        first
          | rw [show markO 3 = 43 from rfl] at hcm
          | rw [show markO 4 = 45 from rfl] at hcm
          | rw [show markO 5 = 42 from rfl] at hcm
        have hcmp := congrArg ByteArray.toList hcm
        clear hcm HCMP
        go_wp2_with fail
        refine (unhide F2').mono ?_
        rintro e w2 ⟨rfl, hb2⟩
        have d0 := cell_on hb2 c0
        have hbw2 := bt hb1 hb2
        clear c0 hb2 hx1 he1 F2'
        go_wp2_with fail
        refine (expr_right (some ⟨b, ob, none⟩) (M + P + 1) lc xs sX _ (he.on hbw2) ((unhide HX0).on hbw2) (unhide hL) HEX HSX).mono ?_
        rintro e w3 ⟨rfl, hb3⟩
        have e0 := cell_on hb3 d0
        have hbw3 := bt hbw2 hb3
        clear d0 hb3 hbw2
        go_wp2_with fail
        refine (part_any (some ⟨b, ob, none⟩) (M + P + 1) lc xs _ (M : Int) _ ((unhide HX0).on hbw3) (unhide hL) (by omega) HPART).mono ?_
        rintro e w4 ⟨rfl, hb4⟩
        have f0 := cell_on hb4 e0
        have hbw4 := bt hbw3 hb4
        clear e0 hb4 hbw3
        have hx5 := liesO_take ((unhide HX0).on hbw4) (p := 0) (k := M) (by omega)
        rw [unhide HXE, Nat.zero_mul, Nat.add_zero, Nat.sub_zero] at hx5
        have hx5' := hide hx5
        clear hx5
        go_wp2_with fail
        refine (expr_right (some ⟨b, ob, none⟩) M lc x s1 _ (he.on hbw4) (unhide hx5') (unhide hL1) HE1 HS1).mono ?_
        rintro e w5 ⟨rfl, hb5⟩
        have g0 := cell_on hb5 f0
        have hbw5 := bt hbw4 hb5
        clear f0 hb5 hbw4 hx5'
        have hy6 := liesO_take ((unhide HX0).on hbw5) (p := M) (k := P) (by omega)
        rw [unhide HYE] at hy6
        have hy6' := hide hy6
        clear hy6
        go_wp2_with fail
        refine (expr_right (some ⟨b, ob + M * 5, none⟩) P (lc - M) y s2 _ (he.on hbw5) (unhide hy6') (unhide hL2) HE2 HS2).mono ?_
        rintro e w6 ⟨rfl, hb6⟩
        have h0 := cell_on hb6 g0
        have hbw6 := bt hbw5 hb6
        have hbx : Below w6.heap.size w6 (w6.alloc (.cells #[.string ⟨#[43]⟩, .string ⟨#[45]⟩, .string ⟨#[42]⟩] 9)) := (Below.refl _ _).alloc (Nat.le_refl _) _
        have h0' := cell_on hbx h0
        have hbw6' := bt hbw6 hbx
        have he6 := he.on hbw6'
        clear g0 hb6 hbw5 hy6' hbx hbw6
        go_wp2_with fail
        refine (wakes_any _ he6).mono ?_
        rintro e w7 ⟨rfl, hb7⟩
        go_wp2_with fail
        go_ret
        exact ⟨rfl, bt hbw6' hb7⟩
end Go.Proofs.YtdonokmnfniobaaGreatDoor.Sb
