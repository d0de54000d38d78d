/- The walk of constablelaw05.SubstMany: it answers true, whatever the number. -/
import Derived.Test.YtmhpoommgdjbiaaSubY
namespace Go.Proofs.Ytmhpoommgdjbiaa
open Go.RowKit
open V

theorem turn_num (x : Int) (ll : Nat) (h : 0 < ll) (hl : ll ≤ 1000) : ∃ r : Nat, r < ll ∧ wrap64 ((IntKind.u64.wrap x).tmod (ll : Int)) = (r : Int) := by
  have h0 : 0 ≤ IntKind.u64.wrap x := by simp [IntKind.wrap, IntKind.bits, IntKind.signed]; omega
  have h1 : 0 ≤ (IntKind.u64.wrap x).tmod (ll : Int) := Int.tmod_nonneg _ h0
  have h2 : (IntKind.u64.wrap x).tmod (ll : Int) < (ll : Int) := Int.tmod_lt_of_pos _ (by omega)
  generalize (IntKind.u64.wrap x).tmod (ll : Int) = y at h1 h2
  refine ⟨y.toNat, by omega, ?_⟩
  unfold wrap64
  omega

/-- The steps that may be gone. -/
def bys : List Nat := [1, 3, 7, 9, 11, 13]
theorem by_of {r : Nat} (hr : r < 6) (w : World) : ∃ bb : Nat, bb ∈ bys ∧ (w.alloc (.cells #[.int .i64 1, .int .i64 3, .int .i64 7, .int .i64 9, .int .i64 11, .int .i64 13] 3)).cell? ⟨w.heap.size, r, none⟩ = some (.int .i64 (bb : Int)) := by
  have hk := heap_alloc_new w (.cells #[.int .i64 1, .int .i64 3, .int .i64 7, .int .i64 9, .int .i64 11, .int .i64 13] 3)
  rw [Lib.cell_of_heap hk]
  have hc : r = 0 ∨ r = 1 ∨ r = 2 ∨ r = 3 ∨ r = 4 ∨ r = 5 := by omega
  rcases hc with rfl | rfl | rfl | rfl | rfl | rfl
  · exact ⟨1, by decide, rfl⟩
  · exact ⟨3, by decide, rfl⟩
  · exact ⟨7, by decide, rfl⟩
  · exact ⟨9, by decide, rfl⟩
  · exact ⟨11, by decide, rfl⟩
  · exact ⟨13, by decide, rfl⟩
theorem by_le {bb : Nat} (h : bb ∈ bys) : bb ≤ 13 := by
  simp [bys] at h; omega

/-- The variable and its number. -/
def vn (k : Nat) : ByteArray := ⟨#[86, UInt8.ofNat (48 + k / 10), UInt8.ofNat (48 + k % 10)]⟩
def ent (k : Nat) : Bb := (vn k, (1, (k : Int), ⟨#[]⟩))
def es : List Bb := (List.range 100).map ent
theorem es_list : listB es = true := by decide +kernel
def dg : ByteArray := ⟨#[48, 49, 50, 51, 52, 53, 54, 55, 56, 57]⟩
theorem vn_of : (List.range 100).all (fun m => decide (((({ data := #[86] } : ByteArray) ++ dg.extract (m / 10) (m / 10 + 1)) ++ dg.extract (m % 10) (m % 10 + 1)) = vn m)) = true := by decide +kernel
theorem turns_all : bys.all (fun bb => decide ((List.range 100).map (fun j => j * bb % 100)).Nodup) = true := by decide +kernel

theorem onto_all : bys.all (fun bb => (List.range 100).all (fun i => (List.range 100).any (fun j => j * bb % 100 == i))) = true := by decide +kernel

theorem vn_at {m t u : Nat} (hm : m < 100) (ht : m / 10 = t) (hu : m % 10 = u) : (({ data := #[86] } : ByteArray) ++ ({ data := #[48, 49, 50, 51, 52, 53, 54, 55, 56, 57] } : ByteArray).extract t (t + 1)) ++ ({ data := #[48, 49, 50, 51, 52, 53, 54, 55, 56, 57] } : ByteArray).extract u (u + 1) = vn m := by
  subst ht hu
  have := List.all_eq_true.1 vn_of m (List.mem_range.2 hm)
  simp only [decide_eq_true_eq] at this
  exact this
theorem ent_inj {a b : Nat} (h : ent a = ent b) : a = b := by
  have : (a : Int) = (b : Int) := congrArg (fun x : Bb => x.2.2.1) h
  omega
theorem ent_mem {i : Nat} (h : i < 100) : ent i ∈ es := List.mem_map.2 ⟨i, List.mem_range.2 h, rfl⟩
theorem ent_right {i : Nat} (h : i < 100) : rightBd (ent i) = true := list_right es_list (ent_mem h)
theorem ent_lt (i : Nat) : Lt (ent i) := ⟨by show (3 : Nat) ≤ 200; omega, by show (0 : Nat) ≤ 200; omega⟩
theorem es_lt : ∀ x ∈ es, Lt x := fun x hx => by
  obtain ⟨i, _, rfl⟩ := List.mem_map.1 hx
  exact ent_lt i

/-- What has gone in behind k steps. -/
def sl (bb k : Nat) : List Bb := ofL cmpB ((List.range k).map (fun j => ent (j * bb % 100)))
theorem mem_sl {bb k : Nat} {x : Bb} : x ∈ sl bb k ↔ ∃ j, j < k ∧ x = ent (j * bb % 100) := by
  unfold sl
  rw [mem_of ord_bind, List.mem_map]
  constructor
  · rintro ⟨j, hj, rfl⟩; exact ⟨j, List.mem_range.1 hj, rfl⟩
  · rintro ⟨j, hj, rfl⟩; exact ⟨j, List.mem_range.2 hj, rfl⟩
theorem sl_es {bb k : Nat} {x : Bb} (h : x ∈ sl bb k) : x ∈ es := by
  obtain ⟨j, _, rfl⟩ := mem_sl.1 h
  exact ent_mem (Nat.mod_lt _ (by omega))
theorem sl_list (bb k : Nat) : listB (sl bb k) = true := list_sub es_list (rise_of ord_bind _) (fun _ h => sl_es h)
theorem sl_lt (bb k : Nat) : ∀ x ∈ sl bb k, Lt x := fun x h => es_lt x (sl_es h)
theorem sl_step (bb k : Nat) : bothR (sl bb k) [ent (k * bb % 100)] = (sl bb (k + 1), true) := by
  have e : unL (sl bb k) [ent (k * bb % 100)] = sl bb (k + 1) := un_eq (rise_of ord_bind _) (fun x => by
    rw [mem_sl, mem_sl, List.mem_singleton]
    constructor
    · rintro ⟨j, hj, rfl⟩
      by_cases h : j < k
      · exact Or.inl ⟨j, h, rfl⟩
      · have : j = k := by omega
        subst this; exact Or.inr rfl
    · rintro (⟨j, hj, rfl⟩ | rfl)
      · exact ⟨j, by omega, rfl⟩
      · exact ⟨k, by omega, rfl⟩)
  rw [both_t (sl_list bb k) (list_single (ent_right (Nat.mod_lt _ (by omega)))) (by rw [e]; exact sl_list bb (k + 1)), e]
theorem turns_inj {bb : Nat} (h : bb ∈ bys) {a b : Nat} (ha : a < 100) (hb : b < 100) (e : a * bb % 100 = b * bb % 100) : a = b := by
  have h1 := List.all_eq_true.1 turns_all bb h
  simp only [decide_eq_true_eq] at h1
  have h2 := List.pairwise_iff_getElem.1 h1
  by_cases hab : a < b
  · have := h2 a b (by simpa using ha) (by simpa using hb) hab
    simp [e] at this
  · by_cases hba : b < a
    · have := h2 b a (by simpa using hb) (by simpa using ha) hba
      simp [e] at this
    · omega
theorem sl_len {bb : Nat} (h : bb ∈ bys) {k : Nat} (hk : k ≤ 100) : (sl bb k).length = k := by
  have hn : ((List.range k).map (fun j => ent (j * bb % 100))).Nodup := by
    rw [List.Nodup, List.pairwise_iff_getElem]
    intro i j hi hj hij he
    simp at hi hj
    simp only [List.getElem_map, List.getElem_range] at he
    have := turns_inj h (by omega) (by omega) (ent_inj he)
    omega
  have h1 : (sl bb k).length ≤ ((List.range k).map (fun j => ent (j * bb % 100))).length :=
    List.Nodup.length_le_of_subset (rise_nodup ord_bind (rise_of ord_bind _)) (fun x hx => (mem_of ord_bind _ x).1 hx)
  have h2 : ((List.range k).map (fun j => ent (j * bb % 100))).length ≤ (sl bb k).length :=
    List.Nodup.length_le_of_subset hn (fun x hx => (mem_of ord_bind _ x).2 hx)
  simp at h1 h2
  omega
theorem sl_all {bb : Nat} (h : bb ∈ bys) : sl bb 100 = es := by
  refine rise_ext ord_bind (rise_of ord_bind _) (list_rise es_list) (fun x => ⟨sl_es, fun hx => ?_⟩)
  obtain ⟨i, hi, rfl⟩ := List.mem_map.1 hx
  have h1 := List.all_eq_true.1 onto_all bb h
  have h2 := List.all_eq_true.1 h1 i hi
  obtain ⟨j, hj, he⟩ := List.any_eq_true.1 h2
  simp only [beq_iff_eq] at he
  exact mem_sl.2 ⟨j, List.mem_range.1 hj, by rw [he]⟩
theorem es_len : es.length = 100 := by simp [es]
theorem es_at {k : Nat} (h : k < es.length) : es[k] = ent k := by simp [es]
theorem put_in {l : List Bb} {x : Bb} (h : listB l = true) (hx : x ∈ l) : bothR l [x] = (l, true) := by
  have e : unL l [x] = l := un_eq (list_rise h) (fun y => ⟨Or.inl, fun hy => by
    rcases hy with hy | hy
    · exact hy
    · rw [List.mem_singleton.1 hy]; exact hx⟩)
  rw [both_t h (list_single (list_right h hx)) (by rw [e]; exact h), e]
def wW : Bb := (⟨#[87]⟩, (1, 0, ⟨#[]⟩))
theorem wW_not : ¬ wW ∈ es := fun h => by
  obtain ⟨i, _, e⟩ := List.mem_map.1 h
  have := congrArg (fun x : Bb => x.1.data.toList.head?) e
  simp [ent, vn, wW] at this
theorem put_full : bothR es [wW] = ([], false) := by
  refine both_f (fun ⟨_, _, h⟩ => ?_)
  have h1 := list_len h
  have h2 : (es ++ [wW]).length ≤ (unL es [wW]).length := List.Nodup.length_le_of_subset (by
    rw [List.nodup_append]
    refine ⟨rise_nodup ord_bind (list_rise es_list), by simp, fun a ha b hb e => ?_⟩
    rw [List.mem_singleton.1 hb] at e
    exact wW_not (e ▸ ha)) (fun x hx => mem_un.2 (List.mem_append.1 hx))
  rw [List.length_append, es_len] at h2
  simp at h2
  omega
theorem get_es {k : Nat} (h : k < 100) : getR es (vn k) = ((1, (k : Int), ⟨#[]⟩), true) := getR_some (get_some es_list (ent_mem h))

theorem box_set {w : World} {b : Nat} (v : Vv) (h : w.heap[b]? = some (.cells #[.int .i64 0, .int .i64 0, .string ⟨#[]⟩] 24)) :
    (((w.setCell ⟨b, 0, none⟩ (.int .i64 v.1)).setCell ⟨b, 1, none⟩ (.int .i64 v.2.1)).setCell ⟨b, 2, none⟩ (.string v.2.2)).cell? ⟨b, 0, none⟩ = some (.int .i64 v.1) ∧
    (((w.setCell ⟨b, 0, none⟩ (.int .i64 v.1)).setCell ⟨b, 1, none⟩ (.int .i64 v.2.1)).setCell ⟨b, 2, none⟩ (.string v.2.2)).cell? ⟨b, 1, none⟩ = some (.int .i64 v.2.1) ∧
    (((w.setCell ⟨b, 0, none⟩ (.int .i64 v.1)).setCell ⟨b, 1, none⟩ (.int .i64 v.2.1)).setCell ⟨b, 2, none⟩ (.string v.2.2)).cell? ⟨b, 2, none⟩ = some (.string v.2.2) := by
  obtain ⟨z0, z1, z2⟩ := trip_of (v := (0, 0, ⟨#[]⟩)) h
  have n01 : (⟨b, 0, none⟩ : Addr) ≠ ⟨b, 1, none⟩ := by simp
  have n02 : (⟨b, 0, none⟩ : Addr) ≠ ⟨b, 2, none⟩ := by simp
  have n12 : (⟨b, 1, none⟩ : Addr) ≠ ⟨b, 2, none⟩ := by simp
  refine ⟨?_, ?_, ?_⟩
  · rw [World.cell?_setCell_other _ _ _ _ n02.symm, World.cell?_setCell_other _ _ _ _ n01.symm, World.cell?_setCell_same _ _ _ z0]
  · rw [World.cell?_setCell_other _ _ _ _ n12.symm]
    exact World.cell?_setCell_same _ _ _ ((World.cell?_setCell_other _ _ _ _ n01).trans z1)
  · exact World.cell?_setCell_same _ _ _ ((World.cell?_setCell_other _ _ _ _ n12).trans ((World.cell?_setCell_other _ _ _ _ n02).trans z2))

theorem cut_one (t : Nat) (h : t ≤ 9) : (dg.extract t (t + 1)).size = 1 := by
  have : dg.size = 10 := rfl
  rw [ByteArray.size_extract]; omega

set_option maxHeartbeats 8000000 in
set_option maxRecDepth 100000 in
theorem many_law (by0 : Int) (w : World) :
    Calls Try.prog 6 #[.int .i64 by0] w fun e w' => e = .returned (.bool true) ∧ Below w.heap.size w w' := by
  obtain ⟨r, hr, he0⟩ := turn_num by0 6 (by omega) (by omega)
  have he : wrap64 ((IntKind.u64.wrap by0).tmod 6) = (r : Int) := he0
  clear he0
  obtain ⟨bb, hbb, hc⟩ := by_of hr w
  have hb13 := by_le hbb
  have HB := hide hbb
  have i1 : (0 : Int) ≤ (r : Int) := by omega
  have i2 : (r : Int) < 6 := by omega
  have hb0 : Below w.heap.size w (w.alloc (.cells #[.int .i64 1, .int .i64 3, .int .i64 7, .int .i64 9, .int .i64 11, .int .i64 13] 3)) := (Below.refl _ _).alloc (Nat.le_refl _) _
  clear hbb
  go_enter Try.func6, Try.ntmps6
  go_wp2_with fail
  clear hc he i1 i2 hr
  generalize w.alloc (.cells #[.int .i64 1, .int .i64 3, .int .i64 7, .int .i64 9, .int .i64 11, .int .i64 13] 3) = W at hb0
  go_loopw [4, 5, 6, 7, 8] (fun l i _ _ _ wr => ∃ (k n c : Nat) (q : Option Addr), k ≤ 100 ∧ i = .int .i64 k ∧ l = .slice q n c ∧ n ≤ 100 ∧ Lies wr q n c (sl bb k) ∧ Below W.heap.size W wr) (fun _ i _ _ _ _ => 100 - (intOf i).toNat)
  case atStart => exact ⟨0, 0, 0, none, by omega, rfl, rfl, by omega, lies_none _, Below.refl _ _⟩
  case round =>
    obtain ⟨k, n, c, q, hk, rfl, rfl, hn, hL, hbw⟩ := hrel
    by_cases hlt : k < 100
    · obtain ⟨p, hp⟩ : ∃ p : Nat, (k : Int) * (bb : Int) = (p : Int) := ⟨k * bb, by simp⟩
      have hp13 : p ≤ 1300 := by
        have : k * bb ≤ 100 * 13 := Nat.mul_le_mul hk hb13
        have : ((k * bb : Nat) : Int) = (p : Int) := by rw [← hp]; simp
        omega
      have hpm : p = k * bb := by
        have : ((k * bb : Nat) : Int) = (p : Int) := by rw [← hp]; simp
        omega
      have HPM := hide hpm
      clear hpm
      go_wp2_with fail
      have hm0 : (p : Int) % 100 = ((p % 100 : Nat) : Int) := by omega
      rw [hm0]
      obtain ⟨m, hm⟩ : ∃ m, p % 100 = m := ⟨_, rfl⟩
      have HM := hide hm
      rw [hm]
      have hm100 : m < 100 := by omega
      obtain ⟨t, ht⟩ : ∃ t, m / 10 = t := ⟨_, rfl⟩
      obtain ⟨u, hu⟩ : ∃ u, m % 10 = u := ⟨_, rfl⟩
      have ht1 : (m : Int) / 10 = (t : Int) := by omega
      have hu0 : (m : Int) % 10 = (u : Int) := by omega
      have hu1 : (m : Int).tmod 10 = (u : Int) := by rw [Int.tmod_eq_emod_of_nonneg (by omega)]; exact hu0
      have ht9 : t ≤ 9 := by omega
      have hu9 : u ≤ 9 := by omega
      have HT := hide ht
      have HV := hide hu
      clear ht hu hm
      clear hu0
      have hdz : ({ data := #[48, 49, 50, 51, 52, 53, 54, 55, 56, 57] } : ByteArray).size = 10 := rfl
      have s1 : (0 : Int) ≤ (t : Int) := by omega
      have s2 : (t : Int) ≤ (t : Int) + 1 := by omega
      have s3 : (t : Int) + 1 ≤ 10 := by omega
      have s4 : IntKind.i64.wrap ((t : Int) + 1) = (t : Int) + 1 := by simp [IntKind.wrap, IntKind.bits, IntKind.signed]; omega
      have s5 : ((t : Int) + 1).toNat = t + 1 := by omega
      have v1 : (0 : Int) ≤ (u : Int) := by omega
      have v2 : (u : Int) ≤ (u : Int) + 1 := by omega
      have v3 : (u : Int) + 1 ≤ 10 := by omega
      have v4 : IntKind.i64.wrap ((u : Int) + 1) = (u : Int) + 1 := by simp [IntKind.wrap, IntKind.bits, IntKind.signed]; omega
      have v5 : ((u : Int) + 1).toNat = u + 1 := by omega
      have s0 : IntKind.i64.wrap (t : Int) = (t : Int) := by simp [IntKind.wrap, IntKind.bits, IntKind.signed]; omega
      have v0 : IntKind.i64.wrap (u : Int) = (u : Int) := by simp [IntKind.wrap, IntKind.bits, IntKind.signed]; omega
      have z1 : (({ data := #[48, 49, 50, 51, 52, 53, 54, 55, 56, 57] } : ByteArray).extract t (t + 1)).size = 1 := cut_one t ht9
      have z2 : (({ data := #[48, 49, 50, 51, 52, 53, 54, 55, 56, 57] } : ByteArray).extract u (u + 1)).size = 1 := cut_one u hu9
      clear hp hp13 hm0
      have hnm := vn_at hm100 (unhide HT) (unhide HV)
      have HST : Hid (bothR (sl bb k) [ent m] = (sl bb (k + 1), true)) := hide (by rw [← unhide HM, unhide HPM]; exact sl_step bb k)
      have hLd := lies_drew hL
      have hn4 : n ≤ 400 := by omega
      go_region_held3 (fun _ => True) (trivial) (first | (go_at_call 11; refine (put_k q n c (sl bb k) _ (ent m) true _ hLd hn4 (sl_lt bb k) (ent_lt m) HST).mono ?_; rintro e w7 ⟨q7, m7, c7, rfl, hl7, hb7, hk7⟩))
      have hbw7 : Below W.heap.size W w7 := bt hbw.drew hb7
      obtain rfl : m7 = k + 1 := by rw [hl7.len]; exact sl_len (unhide HB) (by omega)
      have hck := scheck_x q7 (k + 1) c7 (sl bb (k + 1)) 0 w7 hl7 (sl_lt bb (k + 1)) (hide (chk_t (sl_list bb (k + 1))))
      clear hk7 hb7 hL hLd hbw HST hnm z1 z2 s0 s1 s2 s3 s4 s5 v0 v1 v2 v3 v4 v5 ht1 hu1
      go_wp2_with fail
      refine hck.mono ?_
      rintro e w8 ⟨rfl, hb8⟩
      have hbw8 := bt hbw7 hb8
      replace hl7 := hl7.on hb8
      clear hck hb8 hbw7
      go_wp2_with fail
      go_roundw
      case rel => exact ⟨k + 1, k + 1, c7, q7, by omega, by go_num, rfl, by omega, hl7, hbw8⟩
      case measure => simp [intOf]; omega
    · obtain rfl : k = 100 := by omega
      rw [sl_all (unhide HB)] at hL
      obtain rfl : n = 100 := hL.len.trans es_len
      clear hlt hk hn
      have hc1 := put_any q 100 c es [] ⟨#[87]⟩ (1, 0, ⟨#[]⟩) false wr hL (by omega) es_lt (by decide) (by decide) (hide put_full)
      have hww := bt hb0 hbw
      go_wp2_with fail
      refine hc1.mono ?_
      rintro e w2 ⟨q2, n2, c2, rfl, hl2, hb2⟩
      have hw2 := bt hww hb2
      have hL2 := hL.on hb2
      have hc2 := put_any q 100 c es es ⟨#[86, 48, 55]⟩ (1, 7, ⟨#[]⟩) true w2 hL2 (by omega) es_lt (by decide) (by decide) (hide (put_in (x := ent 7) es_list (ent_mem (by omega))))
      clear hc1 hl2 hL hb2 hww hbw
      go_wp2_with fail
      refine hc2.mono ?_
      rintro e w3 ⟨q3, n3, c3, rfl, hl3, hb3⟩
      have hw3 := bt hw2 hb3
      have hL3 := hL2.on hb3
      clear hc2 hl3 hL2 hb3 hw2
      go_wp2_with fail
      go_loopw [13, 14, 15] (fun i _ _ wr => ∃ k : Nat, k ≤ 100 ∧ i = .int .i64 k ∧ Below w3.heap.size w3 wr) (fun i _ _ _ => 100 - (intOf i).toNat)
      case atStart => exact ⟨0, by omega, rfl, Below.refl _ _⟩
      case round =>
        obtain ⟨k, hk, rfl, hbr⟩ := hrel
        have hwr := bt hw3 hbr
        by_cases hlt : k < 100
        · skip
          obtain ⟨t, ht⟩ : ∃ t, k / 10 = t := ⟨_, rfl⟩
          obtain ⟨u, hu⟩ : ∃ u, k % 10 = u := ⟨_, rfl⟩
          have ht1 : (k : Int) / 10 = (t : Int) := by omega
          have hu0 : (k : Int) % 10 = (u : Int) := by omega
          have hu1 : (k : Int).tmod 10 = (u : Int) := by rw [Int.tmod_eq_emod_of_nonneg (by omega)]; exact hu0
          have ht9 : t ≤ 9 := by omega
          have hu9 : u ≤ 9 := by omega
          have hnm := vn_at hlt ht hu
          clear ht hu hu0
          have hdz : ({ data := #[48, 49, 50, 51, 52, 53, 54, 55, 56, 57] } : ByteArray).size = 10 := rfl
          have s1 : (0 : Int) ≤ (t : Int) := by omega
          have s2 : (t : Int) ≤ (t : Int) + 1 := by omega
          have s3 : (t : Int) + 1 ≤ 10 := by omega
          have s4 : IntKind.i64.wrap ((t : Int) + 1) = (t : Int) + 1 := by simp [IntKind.wrap, IntKind.bits, IntKind.signed]; omega
          have s5 : ((t : Int) + 1).toNat = t + 1 := by omega
          have v1 : (0 : Int) ≤ (u : Int) := by omega
          have v2 : (u : Int) ≤ (u : Int) + 1 := by omega
          have v3 : (u : Int) + 1 ≤ 10 := by omega
          have v4 : IntKind.i64.wrap ((u : Int) + 1) = (u : Int) + 1 := by simp [IntKind.wrap, IntKind.bits, IntKind.signed]; omega
          have v5 : ((u : Int) + 1).toNat = u + 1 := by omega
          have s0 : IntKind.i64.wrap (t : Int) = (t : Int) := by simp [IntKind.wrap, IntKind.bits, IntKind.signed]; omega
          have v0 : IntKind.i64.wrap (u : Int) = (u : Int) := by simp [IntKind.wrap, IntKind.bits, IntKind.signed]; omega
          have z1 : (({ data := #[48, 49, 50, 51, 52, 53, 54, 55, 56, 57] } : ByteArray).extract t (t + 1)).size = 1 := cut_one t ht9
          have z2 : (({ data := #[48, 49, 50, 51, 52, 53, 54, 55, 56, 57] } : ByteArray).extract u (u + 1)).size = 1 := cut_one u hu9
          have hLr := hL3.on hbr
          have hg := fun V (hb : Below wr.heap.size wr V) => get_any q 100 c es (vn k) (1, (k : Int), ⟨#[]⟩) true V (hLr.on hb).row hLr.le hLr.ge (by omega) es_lt (hide (get_es hlt))
          go_wp2_with fail
          go_region_held3 (fun _ => True) (trivial) (first | (go_at_call 9; refine (hg _ (by first | exact (Below.refl _ _).drew | exact (Below.refl _ _).drew.alloc (Nat.le_refl _) _)).mono ?_; rintro e w7 ⟨rfl, hb7⟩; obtain ⟨hcl, hfr⟩ := bcell hb7))
          · have hw7 : Below w3.heap.size w3 w7 := bt hbr.drew hb7
            have hbW : Below w3.heap.size w3 (w7.alloc (.cells #[.int .i64 1, .int .i64 (k : Int), .string ⟨#[]⟩] 24)) := hw7.alloc hw7.size _
            obtain ⟨x0, x1, x2⟩ := trip_of (v := (1, (k : Int), ⟨#[]⟩)) (heap_alloc_new w7 (.cells #[.int .i64 1, .int .i64 (k : Int), .string ⟨#[]⟩] 24))
            simp only at x0 x1 x2
            generalize w7.alloc (.cells #[.int .i64 1, .int .i64 (k : Int), .string ⟨#[]⟩] 24) = V at hbW x0 x1 x2
            generalize w7.heap.size = bx at x0 x1 x2
            obtain ⟨b, o, hq, hbl, c0, c1, c2, c3⟩ := (hL3.on hbW).row.up (show k < es.length by rw [es_len]; exact hlt)
            subst hq
            rw [es_at] at c0 c1 c2 c3
            simp only [ent] at c0 c1 c2 c3
            have hE := eqV0 (1, (k : Int), ⟨#[]⟩) (1, (k : Int), ⟨#[]⟩)
            rw [decide_eq_true rfl] at hE
            simp only at hE
            have e2 : (k : Int) < 100 := by omega
            have e3 : (0 : Int) ≤ (k : Int) := by omega
            clear hcl hfr hg hLr hb7 s0 s1 s2 s3 s4 s5 v0 v1 v2 v3 v4 v5 z1 z2 hnm ht1 hu1
            go_wp2_with fail
            go_quiet (fail)
            have hbW2 := below_drewN hbW nq
            clear c0 c1 c2 c3 hE x0 x1 x2
            go_wp2_with fail
            go_roundw
            case rel => exact ⟨k + 1, by omega, by go_num, hbW2⟩
            case measure => simp [intOf]; omega
          · have hza : Below w3.heap.size w3 (wr.drew.alloc (.cells #[.int .i64 0, .int .i64 0, .string ⟨#[]⟩] 24)) := hbr.drew.alloc hbr.drew.size _
            have hw7 : Below w3.heap.size w3 w7 := bt hza hb7
            have hk7 := (hb7.block wr.heap.size (by simp)).trans (heap_alloc_new wr.drew (.cells #[.int .i64 0, .int .i64 0, .string ⟨#[]⟩] 24))
            obtain ⟨x0, x1, x2⟩ := box_set (1, (k : Int), ⟨#[]⟩) hk7
            have hbW := ((hw7.setCell (p := ⟨wr.heap.size, 0, none⟩) hbr.size (.int .i64 1)).setCell (p := ⟨wr.heap.size, 1, none⟩) hbr.size (.int .i64 (k : Int))).setCell (p := ⟨wr.heap.size, 2, none⟩) hbr.size (.string ⟨#[]⟩)
            simp only at x0 x1 x2
            generalize ((w7.setCell ⟨wr.heap.size, 0, none⟩ (.int .i64 1)).setCell ⟨wr.heap.size, 1, none⟩ (.int .i64 (k : Int))).setCell ⟨wr.heap.size, 2, none⟩ (.string ⟨#[]⟩) = V at hbW x0 x1 x2
            obtain ⟨b, o, hq, hbl, c0, c1, c2, c3⟩ := (hL3.on hbW).row.up (show k < es.length by rw [es_len]; exact hlt)
            subst hq
            rw [es_at] at c0 c1 c2 c3
            simp only [ent] at c0 c1 c2 c3
            have hE := eqV0 (1, (k : Int), ⟨#[]⟩) (1, (k : Int), ⟨#[]⟩)
            rw [decide_eq_true rfl] at hE
            simp only at hE
            have e2 : (k : Int) < 100 := by omega
            have e3 : (0 : Int) ≤ (k : Int) := by omega
            clear hcl hfr hg hLr hb7 s0 s1 s2 s3 s4 s5 v0 v1 v2 v3 v4 v5 z1 z2 hnm ht1 hu1
            go_wp2_with fail
            go_quiet (fail)
            have hbW2 := below_drewN hbW nq
            clear c0 c1 c2 c3 hE x0 x1 x2
            go_wp2_with fail
            go_roundw
            case rel => exact ⟨k + 1, by omega, by go_num, hbW2⟩
            case measure => simp [intOf]; omega
        · go_wp2_with fail
          refine (wakes_any _).mono ?_
          rintro e w9 ⟨rfl, hb9⟩
          go_wp2_with fail
          go_ret
          exact ⟨rfl, bt hwr hb9⟩
end Go.Proofs.Ytmhpoommgdjbiaa
