/- The walk of constablelaw10.AtomsWords: it answers true, whatever the numbers. -/
import Derived.Test.YtdonokmnfniobaaDoorAtX
namespace Go.Proofs.YtdonokmnfniobaaDoor.Sb
open Go.RowKit
open V
open Ex (RowO LiesO flatO)

def wordV : List Value := [Value.string ⟨#[102, 97, 99, 116]⟩, Value.string ⟨#[114, 117, 108, 101]⟩, Value.string ⟨#[112, 97, 116, 116, 101, 114, 110]⟩, Value.string ⟨#[110, 111, 116]⟩, Value.string ⟨#[97, 110, 100]⟩, Value.string ⟨#[111, 114]⟩, Value.string ⟨#[98, 101, 102, 111, 114, 101]⟩, Value.string ⟨#[111, 110, 99, 101]⟩, Value.string ⟨#[97, 108, 119, 97, 121, 115]⟩, Value.string ⟨#[115, 105, 110, 99, 101]⟩, Value.string ⟨#[100, 114, 111, 112]⟩]
theorem wordV_at : ∀ t (h : t < 11), wordV[t]'(by simp [wordV]; omega) = .string ⟨(wordA t).toArray⟩ := by
  intro t h
  have : t = 0 ∨ t = 1 ∨ t = 2 ∨ t = 3 ∨ t = 4 ∨ t = 5 ∨ t = 6 ∨ t = 7 ∨ t = 8 ∨ t = 9 ∨ t = 10 := by omega
  rcases this with rfl | rfl | rfl | rfl | rfl | rfl | rfl | rfl | rfl | rfl | rfl <;> rfl
theorem word_short : ∀ k : Fin 11, (wordA k).length ≤ 100 := by decide
theorem idx1000 (h : Int) : ∃ N : Nat, N < 1000 ∧ wrap64 ((IntKind.u64.wrap h).tmod 1000) = N := by
  have h0 : 0 ≤ IntKind.u64.wrap h := by simp [IntKind.wrap, IntKind.bits, IntKind.signed]; omega
  generalize IntKind.u64.wrap h = m at h0
  rw [Int.tmod_eq_emod_of_nonneg h0]
  have e1 : wrap64 (m % 1000) = m % 1000 := by simp [wrap64]; omega
  rw [e1]
  exact ⟨(m % 1000).toNat, by omega, by omega⟩

theorem lies_lit {w : World} {b : Nat} {xs : List Bb} {T : TypeId} (h : w.heap[b]? = some (.cells (flatB xs).toArray T)) : Lies w (some ⟨b, 0, none⟩) xs.length xs.length xs := by
  refine ⟨Or.inr ⟨b, 0, rfl, (Array.getElem?_eq_some_iff.1 h).1, fun i v hv => ?_⟩, rfl, (fun h => by cases h), Nat.le_refl _⟩
  obtain ⟨h0, h1, h2, h3⟩ := flatB_get xs i v hv
  rw [Lib.cell_of_heap h, Lib.cell_of_heap h, Lib.cell_of_heap h, Lib.cell_of_heap h]
  simpa using ⟨h0, h1, h2, h3⟩
abbrev obj12 (z : ByteArray) (N : Int) : Obj := .cells #[.string ⟨#[]⟩, .int .i64 2, .int .i64 0, .string z, .string ⟨#[]⟩, .int .i64 1, .int .i64 N, .string ⟨#[]⟩, .string ⟨#[]⟩, .int .i64 1, .int .i64 (-N), .string ⟨#[]⟩] 53
abbrev three12 (z : ByteArray) (N : Int) : List Bb := [(⟨#[]⟩, 2, 0, z), (⟨#[]⟩, 1, N, ⟨#[]⟩), (⟨#[]⟩, 1, -N, ⟨#[]⟩)]
theorem lies12 (w : World) (z : ByteArray) (N : Int) : Lies (w.alloc (obj12 z N)) (some ⟨w.heap.size, 0, none⟩) 3 3 (three12 z N) := lies_lit (xs := three12 z N) (T := 53) (heap_alloc_new w (obj12 z N))
theorem digit_at (i : Nat) (h : i < 10) : ((⟨#[48, 49, 50, 51, 52, 53, 54, 55, 56, 57]⟩ : ByteArray).extract i (i + 1)).data.toList = [dg i] := by
  have : i = 0 ∨ i = 1 ∨ i = 2 ∨ i = 3 ∨ i = 4 ∨ i = 5 ∨ i = 6 ∨ i = 7 ∨ i = 8 ∨ i = 9 := by omega
  clear h
  rcases this with rfl | rfl | rfl | rfl | rfl | rfl | rfl | rfl | rfl | rfl <;> decide
set_option maxHeartbeats 8000000 in
set_option maxRecDepth 100000 in
theorem words_law (h n : Int) (w : World) (he : Env w) :
    Calls Tryd.prog 5 #[.int .i64 h, .int .i64 n] w fun e w' => e = .returned (.bool true) ∧ Below w.heap.size w w' := by
  obtain ⟨i0, i1⟩ := idx11 h
  obtain ⟨N, hN, hNe⟩ := idx1000 n
  have hT := wordV_at (wrap64 ((IntKind.u64.wrap h).tmod 11)).toNat (by omega)
  have hsh := word_short ⟨(wrap64 ((IntKind.u64.wrap h).tmod 11)).toNat, by omega⟩
  obtain ⟨ws, wl, wp⟩ := word_all ⟨(wrap64 ((IntKind.u64.wrap h).tmod 11)).toNat, by omega⟩
  simp only at hsh ws wl wp
  generalize wordA (wrap64 ((IntKind.u64.wrap h).tmod 11)).toNat = x at hT hsh ws wl wp
  obtain ⟨z, hz⟩ : ∃ z : ByteArray, z = ⟨x.toArray⟩ := ⟨_, rfl⟩
  have hzl : z.data.toList = x := by rw [hz]
  rw [← hz] at hT
  have hzs : z.size ≤ 100 := by rw [← size_list, hzl]; omega
  rw [← hzl] at ws wl wp
  have hbw : Below w.heap.size w (w.alloc (.cells wordV.toArray 9)) := (Below.refl _ _).alloc (Nat.le_refl _) _
  have HBW := hide hbw
  simp only [wordV] at hT
  have HS := hide ws
  have HL := hide wl
  have HP := hide wp
  clear hz hzl hsh ws wl wp hbw
  obtain ⟨s, hs⟩ : ∃ s : ByteArray, s = (⟨#[48, 49, 50, 51, 52, 53, 54, 55, 56, 57]⟩ : ByteArray).extract (N / 100) (N / 100 + 1) ++ (⟨#[48, 49, 50, 51, 52, 53, 54, 55, 56, 57]⟩ : ByteArray).extract (N / 10 % 10) (N / 10 % 10 + 1) ++ (⟨#[48, 49, 50, 51, 52, 53, 54, 55, 56, 57]⟩ : ByteArray).extract (N % 10) (N % 10 + 1) := ⟨_, rfl⟩
  have hsb : s.data.toList = three (N / 100) (N / 10 % 10) (N % 10) := by
    rw [hs, ByteArray.data_append, ByteArray.data_append, Array.toList_append, Array.toList_append, digit_at (N / 100) (by omega), digit_at (N / 10 % 10) (by omega), digit_at (N % 10) (by omega)]
    rfl
  have hs3 : s.size ≤ 3 := by rw [← size_list, hsb]; exact Nat.le_refl _
  obtain ⟨t1, ht1⟩ : ∃ t : ByteArray, t = ((((((⟨#[112, 40]⟩ : ByteArray) ++ z) ++ ⟨#[44, 32, 48]⟩) ++ s) ++ ⟨#[44, 32, 45]⟩) ++ s) ++ ⟨#[41]⟩ := ⟨_, rfl⟩
  have hp1 : parseA t1.data.toList = some ([112], [(⟨#[]⟩, 2, 0, z), (⟨#[]⟩, 1, (N : Int), ⟨#[]⟩), (⟨#[]⟩, 1, -(N : Int), ⟨#[]⟩)]) := by
    have h := parse_word (a := N / 100) (b := N / 10 % 10) (c := N % 10) (by omega) (by omega) (by omega) (unhide HS)
    rw [show 100 * (N / 100) + 10 * (N / 10 % 10) + N % 10 = N by omega, bytes_of] at h
    rw [← h, ← hsb, ht1]
    congr 1
    simp [ByteArray.data_append]
  have hz1 : t1.size ≤ 19999 := by rw [ht1]; simp only [ByteArray.size_append]; rw [show (⟨#[112, 40]⟩ : ByteArray).size = 2 from rfl, show (⟨#[44, 32, 48]⟩ : ByteArray).size = 3 from rfl, show (⟨#[44, 32, 45]⟩ : ByteArray).size = 3 from rfl, show (⟨#[41]⟩ : ByteArray).size = 1 from rfl]; omega
  obtain ⟨t2, ht2⟩ : ∃ t : ByteArray, t = z ++ ⟨#[40, 49, 41]⟩ := ⟨_, rfl⟩
  have hb2 : t2.data.toList = z.data.toList ++ [40, 49, 41] := by rw [ht2]; simp [ByteArray.data_append]
  have hz2 : t2.size ≤ 19999 := by rw [ht2]; simp only [ByteArray.size_append]; rw [show (⟨#[40, 49, 41]⟩ : ByteArray).size = 3 from rfl]; omega
  obtain ⟨t3, ht3⟩ : ∃ t : ByteArray, t = ((⟨#[40, 49, 32, 45]⟩ : ByteArray) ++ s) ++ ⟨#[41]⟩ := ⟨_, rfl⟩
  have hb3 : t3.data.toList = [40, 49, 32, 45] ++ (s.data.toList ++ [41]) := by rw [ht3]; simp [ByteArray.data_append]
  have hz3 : t3.size ≤ 19999 := by rw [ht3]; simp only [ByteArray.size_append]; rw [show (⟨#[40, 49, 32, 45]⟩ : ByteArray).size = 4 from rfl, show (⟨#[41]⟩ : ByteArray).size = 1 from rfl]; omega
  obtain ⟨t4, ht4⟩ : ∃ t : ByteArray, t = ((⟨#[40, 49, 32, 45, 32]⟩ : ByteArray) ++ s) ++ ⟨#[41]⟩ := ⟨_, rfl⟩
  have hb4 : t4.data.toList = [40, 49, 32, 45, 32] ++ (s.data.toList ++ [41]) := by rw [ht4]; simp [ByteArray.data_append]
  have hz4 : t4.size ≤ 19999 := by rw [ht4]; simp only [ByteArray.size_append]; rw [show (⟨#[40, 49, 32, 45, 32]⟩ : ByteArray).size = 5 from rfl, show (⟨#[41]⟩ : ByteArray).size = 1 from rfl]; omega
  obtain ⟨us2, hu2⟩ : ∃ us, lexA rightK t2.data.toList 0 = .ok us := by
    rw [hb2]
    obtain ⟨ks, hk⟩ := Option.isSome_iff_exists.1 (unhide HL)
    obtain ⟨us, h, _⟩ := lexK_some hk
    exact ⟨us, h⟩
  have hp2 : parseA t2.data.toList = none := by rw [hb2]; exact unhide HP
  obtain ⟨us3, hu3, hr3⟩ : ∃ us, lexA rightK t3.data.toList 0 = .ok us ∧ readE (us.map kt) 0 = .error 2 := by
    rw [hb3, hsb]; exact read_minus (by omega) (by omega) (by omega)
  obtain ⟨us4, hu4, hr4⟩ : ∃ us, lexA rightK t4.data.toList 0 = .ok us ∧ readE (us.map kt) 0 = .ok ([(2, ⟨#[]⟩, 1, 1, ⟨#[]⟩), (2, ⟨#[]⟩, 1, ((100 * (N / 100) + 10 * (N / 10 % 10) + N % 10 : Nat) : Int), ⟨#[]⟩), (4, ⟨#[]⟩, zeroV)], 5) := by
    rw [hb4, hsb]; exact read_less (by omega) (by omega) (by omega)
  have HP1 := hide hp1
  have HP2 := hide hp2
  have HU2 := hide hu2
  have HU3 := hide hu3
  have HU4 := hide hu4
  have HR3 := hide hr3
  have HR4 := hide hr4
  have HT1 := hide ht1
  have HT2 := hide ht2
  have HT3 := hide ht3
  have HT4 := hide ht4
  clear hsb hp1 hp2 hu2 hu3 hu4 hr3 hr4 ht1 ht2 ht3 ht4 hb2 hb3 hb4 HS HL HP
  go_enter Tryd.func5, Tryd.ntmps5
  go_wp2_with fail
  go_quiet (fail)
  rw [← hs]
  simp only [hNe]
  clear hs
  have hbw := below_drewN (unhide HBW) nq
  change Exit.then _ _ Exit.normal _ ((w.alloc (.cells wordV.toArray 9)).drewN nq)
  generalize (w.alloc (.cells wordV.toArray 9)).drewN nq = W at hbw ⊢
  clear HBW hT i0 i1
  have heW := he.on hbw
  clear he
  go_wp2_with fail
  rw [← unhide HT1]
  refine (parse_ok t1 _ _ heW hz1 HP1).mono ?_
  rintro e w1 ⟨⟨za, aa, an, ac, rfl, hza, hLa⟩, hb1⟩
  simp only at hza hLa
  have han : an = 3 := hLa.len
  subst han
  have A1 := AB.new w1 za (.slice aa 3 ac)
  have hbx : Below w1.heap.size w1 (w1.alloc (.cells #[.string za, .slice aa 3 ac] 26)) := (Below.refl _ _).alloc (Nat.le_refl _) _
  have hL1 := hLa.on hbx
  have hbw1 := bt (bt hbw hb1) hbx
  have he1 := (heW.on hb1).on hbx
  have hsz : w1.heap.size < (w1.alloc (.cells #[.string za, .slice aa 3 ac] 26)).heap.size := A1.lt
  clear hLa hb1 hbx hbw heW HP1 HT1
  go_wp2_with fail
  rw [← unhide HT2]
  generalize w1.heap.size = p at A1 hsz ⊢
  generalize w1.alloc (.cells #[.string za, .slice aa 3 ac] 26) = W1 at A1 hL1 hbw1 he1 hsz ⊢
  refine (parse_none t2 us2 _ he1 hz2 HU2 HP2).mono ?_
  rintro e w2 ⟨rfl, hb2⟩
  have hbx : Below w2.heap.size w2 (w2.alloc (.cells #[.string ⟨#[]⟩, .slice none 0 0] 26)) := (Below.refl _ _).alloc (Nat.le_refl _) _
  have A2 := (A1.on hb2).on hbx
  have hL2 := (hL1.on hb2).on hbx
  have hbw2 := bt (bt hbw1 hb2) hbx
  have he2 := (he1.on hb2).on hbx
  clear A1 hL1 hbw1 he1 hb2 hbx HU2 HP2 HT2 hsz
  go_wp2_with fail
  rw [← unhide HT3]
  generalize w2.alloc (.cells #[.string ⟨#[]⟩, .slice none 0 0] 26) = W2 at A2 hL2 hbw2 he2 ⊢
  refine (lex_lies t3 us3 _ hz3 he2 HU3).mono ?_
  rintro e w3 ⟨⟨la, lc, xs, rfl, hl, HK, HZ, hu⟩, hb3⟩
  have hbx : Below w3.heap.size w3 (w3.alloc (objPos 0 0)) := (Below.refl _ _).alloc (Nat.le_refl _) _
  have A3 := (A2.on hb3).on hbx
  have hL3 := (hL2.on hb3).on hbx
  have hbw3 := bt (bt hbw2 hb3) hbx
  have he3 := (he2.on hb3).on hbx
  have hl3 := hl.on hbx
  have HR : Hid (readE (xs.map ktm) 0 = .error 2) := hide (by rw [unhide HK]; exact unhide HR3)
  clear A2 hL2 hbw2 he2 hb3 hbx HU3 HT3 hl HK HR3
  go_wp2_with fail
  generalize w3.alloc (objPos 0 0) = W3 at A3 hL3 hbw3 he3 hl3 ⊢
  refine (rexpr_no la us3.length lc xs 0 2 _ he3 hl3 HZ hu (Nat.zero_le _) HR).mono ?_
  rintro e w4 ⟨rfl, hb4⟩
  have A4 := A3.on hb4
  have hL4 := hL3.on hb4
  have hbw4 := bt hbw3 hb4
  have he4 := he3.on hb4
  clear A3 hL3 hbw3 he3 hb4 hl3 HR HZ hu
  go_wp2_with fail
  rw [← unhide HT4]
  refine (lex_lies t4 us4 _ hz4 he4 HU4).mono ?_
  rintro e w5 ⟨⟨la', lc', xs', rfl, hl, HK, HZ, hu⟩, hb5⟩
  have hbx : Below w5.heap.size w5 (w5.alloc (objPos 0 0)) := (Below.refl _ _).alloc (Nat.le_refl _) _
  have A5 := (A4.on hb5).on hbx
  have hL5 := (hL4.on hb5).on hbx
  have hbw5 := bt (bt hbw4 hb5) hbx
  have he5 := (he4.on hb5).on hbx
  have hl5 := hl.on hbx
  have HR : Hid (readE (xs'.map ktm) 0 = .ok ([(2, ⟨#[]⟩, 1, 1, ⟨#[]⟩), (2, ⟨#[]⟩, 1, ((100 * (N / 100) + 10 * (N / 10 % 10) + N % 10 : Nat) : Int), ⟨#[]⟩), (4, ⟨#[]⟩, zeroV)], 5)) := hide (by rw [unhide HK]; exact unhide HR4)
  clear A4 hL4 hbw4 he4 hb5 hbx HU4 HT4 hl HK HR4
  go_wp2_with fail
  generalize w5.alloc (objPos 0 0) = W5 at A5 hL5 hbw5 he5 hl5 ⊢
  refine (rexpr_ok la' us4.length lc' xs' 0 _ _ he5 hl5 HZ hu (Nat.zero_le _) HR).mono ?_
  rintro e w6 ⟨⟨xa, xn, xc, rfl, hx⟩, hb6⟩
  simp only at hx ⊢
  have hxn : xn = 3 := hx.len
  subst hxn
  have A6 := A5.on hb6
  have hL6 := hL5.on hb6
  have hbw6 := bt hbw5 hb6
  have he6 := he5.on hb6
  clear A5 hL5 hbw5 he5 hb6 hl5 HR HZ hu hx
  have hbx : Below w6.heap.size w6 ((w6.alloc (obj12 z N)).alloc (.cells #[.string ⟨#[112]⟩, .slice (some ⟨w6.heap.size, 0, none⟩) 3 3] 26)) := ((Below.refl _ _).alloc (Nat.le_refl _) _).alloc (by simp) _
  have hLw := (lies12 w6 z N).on ((Below.refl _ _).alloc (Nat.le_refl _) (.cells #[.string ⟨#[112]⟩, .slice (some ⟨w6.heap.size, 0, none⟩) 3 3] 26))
  have A7 := A6.on hbx
  have hL7 := hL6.on hbx
  have hbw7 := bt hbw6 hbx
  have he7 := he6.on hbx
  obtain ⟨a0, a1⟩ : _ ∧ _ := ⟨A7.c0, A7.c1⟩
  clear A6 hL6 hbw6 he6
  go_wp2_with fail
  have hzae : za = ⟨#[112]⟩ := str_of' _ hza
  have F := keepAtom_any za ⟨#[112]⟩ aa (some ⟨w6.heap.size, 0, none⟩) 3 3 ac 3 _ _ _ hL7 hLw (by decide)
  rw [decide_eq_true (⟨hzae, rfl⟩ : za = ⟨#[112]⟩ ∧ three12 z N = three12 z N)] at F
  refine F.mono ?_
  rintro e w8 ⟨rfl, hb8⟩
  have hbw8 := bt hbw7 hb8
  have he8 := he7.on hb8
  clear a0 a1 A7 hL7 hLw F hza hzae
  go_wp2_with fail
  refine (wakes_any _ he8).mono ?_
  rintro e w9 ⟨rfl, hb9⟩
  go_wp2_with fail
  go_ret
  exact ⟨rfl, bt hbw8 hb9⟩
end Go.Proofs.YtdonokmnfniobaaDoor.Sb
