/- What atoms.readAtom answers. -/
import Derived.Test.YtcjnhhbcleljmaaGreatDoorAtC
import Derived.Test.YtcjnhhbcleljmaaGreatDoorAtoI
namespace Go.Proofs.YtcjnhhbcleljmaaGreatDoor.Sb
open Go.RowKit
open V

/-- A box that holds an atom. -/
structure AB (W : World) (b : Nat) (s : ByteArray) (v : Value) : Prop where
  at_ : W.heap[b]? = some (.cells #[.string s, v] 46 (0, 0))
namespace AB
variable {W W' : World} {b : Nat} {s : ByteArray} {v : Value}
theorem lt (h : AB W b s v) : b < W.heap.size := (Array.getElem?_eq_some_iff.1 h.at_).1
theorem new (w : World) (s : ByteArray) (v : Value) : AB (w.alloc (.cells #[.string s, v] 46)) w.heap.size s v := ⟨heap_alloc_new w _⟩
theorem on (h : AB W b s v) (hb : Below W.heap.size W W') : AB W' b s v := ⟨by rw [hb.block b h.lt]; exact h.at_⟩
theorem alloc (h : AB W b s v) (o : Obj) : AB (W.alloc o) b s v := ⟨by rw [Lib.alloc_old W o b h.lt]; exact h.at_⟩
theorem c0 (h : AB W b s v) : W.cell? ⟨b, 0, none⟩ = some (.string s) := by rw [Lib.cell_of_heap h.at_]; rfl
theorem c1 (h : AB W b s v) : W.cell? ⟨b, 1, none⟩ = some v := by rw [Lib.cell_of_heap h.at_]; rfl
theorem f0 (h : AB W b s v) : W.frozen? ⟨b, 0, none⟩ = false := Lib.frozen_of_heap h.at_ 0
theorem f1 (h : AB W b s v) : W.frozen? ⟨b, 1, none⟩ = false := Lib.frozen_of_heap h.at_ 1
theorem set0 (h : AB W b s v) (x : ByteArray) : AB (W.setCell ⟨b, 0, none⟩ (.string x)) b x v := ⟨by rw [Lib.heap_setCell_same h.at_]; rfl⟩
theorem set1 (h : AB W b s v) (x : Value) : AB (W.setCell ⟨b, 1, none⟩ x) b s x := ⟨by rw [Lib.heap_setCell_same h.at_]; rfl⟩
theorem grown {r : Option Nat} (h : AB W b s v) (hg : W.grownBy W' r) (hne : r ≠ some b) : AB W' b s v := ⟨by rw [hg.block b h.lt (fun e => hne e.symm)]; exact h.at_⟩
end AB
theorem below2 {B : Nat} {w W : World} (h : Below B w W) {b : Nat} (hb : B ≤ b) (v0 v1 : Value) : Below B w ((W.setCell ⟨b, 0, none⟩ v0).setCell ⟨b, 1, none⟩ v1) :=
  (h.setCell (p := ⟨b, 0, none⟩) hb _).setCell (p := ⟨b, 1, none⟩) hb _
theorem isMark_at (a : Option Addr) (n c : Nat) (xs : List Tm) (p : Nat) (i : Int) (s : ByteArray) (q : Bool) (w : World) (hl : LiesT w a n c xs) (hi : Hid ((p : Int) = i)) (H : Hid (isM xs p s = q)) :
    Calls Tryz.prog 220 #[.slice a n c, .int .i64 i, .string s] w fun e w' => e = .returned (.bool q) ∧ w' = w := by
  rw [← unhide hi]; exact isMark_any a n c xs p s q w hl H
theorem term_at (a : Option Addr) (n c : Nat) (xs : List Tm) (p : Nat) (i : Int) (o : Option Bb) (w : World) (he : Env w) (hl : LiesT w a n c xs) (hz : ∀ x ∈ xs, x.2.1.size ≤ 20000) (hi : Hid ((p : Int) = i)) (H : Hid (kT (xs.map ktm) p = o)) :
    Calls Tryz.prog 221 #[.slice a n c, .int .i64 i] w fun e w' => e = .returned (termV o) ∧ Below w.heap.size w w' := by
  rw [← unhide hi]
  refine term_any a n c xs p (termV o) w he hl hz (hide (congrArg termV ?_))
  rw [← unhide H]
  unfold termAtR kT
  rw [List.getElem?_map]
  cases xs[p]? <;> rfl
theorem isM_t {xs : List Tm} {p : Nat} {s : ByteArray} (h : isM xs p s = true) : (xs.map ktm)[p]? = some (5, s.data.toList) := by rw [isM_kt] at h; simpa using h
theorem isM_f {xs : List Tm} {p : Nat} {s : ByteArray} (h : isM xs p s = false) : (xs.map ktm)[p]? ≠ some (5, s.data.toList) := by rw [isM_kt] at h; simpa using h

theorem quad4 {W : World} {b : Nat} {x : Tm} (h : W.heap[b]? = some (objTk' x)) : W.cell? ⟨b, 0, none⟩ = some (.int .i64 x.1) ∧ W.cell? ⟨b, 1, none⟩ = some (.string x.2.1) ∧ W.cell? ⟨b, 2, none⟩ = some (.int .i64 x.2.2.1) ∧ W.cell? ⟨b, 3, none⟩ = some (.int .i64 x.2.2.2) := by
  refine ⟨?_, ?_, ?_, ?_⟩ <;> (rw [Lib.cell_of_heap h]; rfl)
theorem box_twoB (w : World) (A : Obj) (v : Bb) : ((w.alloc A).alloc (bxT v)).heap[w.heap.size + 1]? = some (bxT v) := by
  have := heap_alloc_new (w.alloc A) (bxT v)
  rwa [show (w.alloc A).heap.size = w.heap.size + 1 by simp] at this
/-- What the reading of an atom answers; its terms lie in new memory, from block B on. -/
def AtRes (B : Nat) (r : Except Nat (At × Nat)) (e : Ending) (w : World) : Prop := match r with
  | .ok x => ∃ (s : ByteArray) (a : Option Addr) (n c : Nat), e = .returned (.tuple #[.agg #[.string s, .slice a n c], .int .i64 x.2, .bool true]) ∧ s.data.toList = x.1.1 ∧ w.ownsRow B 141 4 (.slice a n c) n (flatB x.1.2)
  | .error p => e = .returned (.tuple #[.agg #[.string ⟨#[]⟩, .slice none 0 0], .int .i64 p, .bool false])
theorem AtRes.no {B : Nat} {r : Except Nat (At × Nat)} {p : Nat} {i : Int} {w : World} (h : r = .error p) (hi : i = p) : AtRes B r (.returned (.tuple #[.agg #[.string ⟨#[]⟩, .slice none 0 0], .int .i64 i, .bool false])) w := by
  subst h hi; rfl
theorem AtRes.ok {B : Nat} {r : Except Nat (At × Nat)} {nm : List UInt8} {ts : List Bb} {q : Nat} {i : Int} {s : ByteArray} {a : Option Addr} {n c : Nat} {w : World} (h : r = .ok ((nm, ts), q)) (hi : i = q) (hs : s.data.toList = nm) (hl : w.ownsRow B 141 4 (.slice a n c) n (flatB ts)) : AtRes B r (.returned (.tuple #[.agg #[.string s, .slice a n c], .int .i64 i, .bool true])) w := by
  subst h hi; exact ⟨s, a, n, c, rfl, hs, hl⟩
theorem infoTm : (Tryz.prog.info? 141).map (fun i => (i.zero, i.size, i.bytes)) = some (some (.agg #[.string ⟨#[]⟩, .int .i64 0, .int .i64 0, .string ⟨#[]⟩]), 4, 48) := by kernel_rfl
theorem cells_b {W : World} {b : Nat} {x : Bb} (h : W.heap[b]? = some (bxT x)) : ∀ (j : Nat) (u : Value), (flatB [x])[j]? = some u → W.cell? ((⟨b, 0, none⟩ : Addr).add j) = some u := by
  intro j u hu
  rw [WideShapes.add_plain, Lib.cell_of_heap h]
  match j, hu with
  | 0, hu => simpa [flatB] using hu
  | 1, hu => simpa [flatB] using hu
  | 2, hu => simpa [flatB] using hu
  | 3, hu => simpa [flatB] using hu
  | j + 4, hu => simp [flatB] at hu
theorem lies_row {w : World} {B n cp : Nat} {ao : Option Addr} {xs : List Bb} (h : w.ownsRow B 141 4 (.slice ao n cp) n (flatB xs)) : Lies w ao n cp xs := by
  have hn : n = xs.length := by have := h.1; rw [flatB_len] at this; omega
  refine ⟨?_, hn, (own_nil h).1, (own_nil h).2⟩
  rcases h.2 with ⟨_, h0⟩ | ⟨g, cap, cur, hv, _, hg, _, _, _, ht⟩
  · left; exact List.eq_nil_of_length_eq_zero (by omega)
  · simp only [Value.slice.injEq] at hv
    obtain ⟨rfl, _, _⟩ := hv
    refine Or.inr ⟨g, 0, rfl, (Array.getElem?_eq_some_iff.1 hg).1, fun i v hv => ?_⟩
    have hi : i < n := by rw [hn]; exact (List.getElem?_eq_some_iff.1 hv).1
    obtain ⟨h0, h1, h2, h3⟩ := flatB_get xs i v hv
    rw [← ht] at h0 h1 h2 h3
    rw [List.getElem?_take_of_lt (by omega), Array.getElem?_toList] at h0 h1 h2 h3
    rw [Lib.cell_of_heap hg, Lib.cell_of_heap hg, Lib.cell_of_heap hg, Lib.cell_of_heap hg]
    simpa using ⟨h0, h1, h2, h3⟩
theorem nameK_of {xs : List Tm} {p : Nat} {x : Tm} (hx : xs[p]? = some x) : nameK (xs.map ktm) p = (decide (x.1 = 1) && nameB x.2.1.data.toList) := by
  unfold nameK
  rw [List.getElem?_map, hx]; rfl

set_option maxHeartbeats 4000000 in
set_option maxRecDepth 100000 in
theorem readAtom_any (a : Option Addr) (n c : Nat) (xs : List Tm) (p : Nat) (r : Except Nat (At × Nat)) (w : World) (he : Env w) (hl : LiesT w a n c xs) (hz : ∀ x ∈ xs, x.2.1.size ≤ 20000) (hn2 : n ≤ 20000) (_hp : p ≤ n) (H : Hid (readAt ((xs.map ktm).drop p) p = r)) :
    Calls Tryz.prog 199 #[.slice a n c, .int .i64 (p : Int)] w fun e w' => AtRes w.heap.size r e w' ∧ Below w.heap.size w w' := by
  have hb0 : Below w.heap.size w (w.alloc (.cells #[.string ⟨#[]⟩, .slice none 0 0] 46)) := (Below.refl _ _).alloc (Nat.le_refl _) _
  have A0 := AB.new w ⟨#[]⟩ (.slice none 0 0)
  have hl0 := hl.on hb0
  have he0 := he.on hb0
  have HZ := hide hz
  clear hz
  by_cases hs : ∀ x, xs[p]? = some x → soloB (ktm x) = false
  · have HR : Hid (r = .error p) := by
      refine hide ?_
      rw [← unhide H]
      refine readAt_none ?_
      cases hx : xs[p]? with
      | none => unfold nameK; rw [List.getElem?_map, hx]; rfl
      | some x =>
        rw [nameK_of hx]
        cases hb : (decide (x.1 = 1) && nameB x.2.1.data.toList) with
        | false => rfl
        | true =>
          simp only [Bool.and_eq_true, decide_eq_true_eq] at hb
          have := (name_solo (t := ktm x)).1 ⟨hb.1, hb.2⟩
          rw [hs x hx] at this
          cases this.1
    have HS := hide hs
    clear hs H hl he
    go_enter Tryz.func199, Tryz.ntmps199
    go_wp2_with fail
    refine (sign_none a n c xs p _ he0 hl0 (unhide HZ) HS).mono ?_
    rintro e w1 ⟨rfl, hb1⟩
    have hbx : Below w1.heap.size w1 (w1.alloc (objTk' (0, ⟨#[]⟩, 0, 0))) := (Below.refl _ _).alloc (Nat.le_refl _) _
    have A1 := (A0.on hb1).on hbx
    have hbw := bt (bt hb0 hb1) hbx
    clear A0 hl0
    go_wp2_with fail
    refine (name_any ⟨#[]⟩ _ (by decide)).mono ?_
    rintro e w2 ⟨rfl, hb2⟩
    rw [show nameB (⟨#[]⟩ : ByteArray).data.toList = false from rfl]
    have A2 := A1.on hb2
    have hbw2 := bt hbw hb2
    obtain ⟨a0, a1, f0, f1⟩ : _ ∧ _ ∧ _ ∧ _ := ⟨A2.c0, A2.c1, A2.f0, A2.f1⟩
    clear A1 A2
    go_wp2_with fail
    refine bodyPost_ret (v := .tuple #[.agg #[.string ⟨#[]⟩, .slice none 0 0], .int .i64 p, .bool false]) (by simp [results, Tryz.results199, go_sem, a0, a1]) rfl ?_
    exact ⟨AtRes.no (unhide HR) rfl, below2 hbw2 (Nat.le_refl _) _ _⟩
  · obtain ⟨x, hx, hso⟩ : ∃ x, xs[p]? = some x ∧ soloB (ktm x) = true := by
      refine Classical.byContradiction (fun hc => hs (fun x hx => ?_))
      cases hb : soloB (ktm x) with
      | false => rfl
      | true => exact absurd ⟨x, hx, hb⟩ hc
    have hzx : x.2.1.size ≤ 20000 := unhide HZ x (List.mem_of_getElem? hx)
    have hpl : p < n := by
      have := (List.getElem?_eq_some_iff.1 hx).1
      have := hl.len; omega
    have hxm : (xs.map ktm)[p]? = some (ktm x) := by rw [List.getElem?_map, hx]; rfl
    have HX := hide hx
    have HSO := hide hso
    have hzm : x.2.1.size ≤ maxLen := by unfold maxLen; omega
    cases hnm : nameB x.2.1.data.toList with
    | false =>
      have HR : Hid (r = .error p) := by
        refine hide ?_
        rw [← unhide H]
        refine readAt_none ?_
        rw [nameK_of hx, hnm]; simp
      have HN := hide hnm
      obtain ⟨k, s, l0, c0⟩ := x
      simp only at hzm HN
      clear hs H hl he hx hso hxm hnm hzx
      go_enter Tryz.func199, Tryz.ntmps199
      go_wp2_with fail
      refine (sign_some a n c xs p _ _ he0 hl0 (unhide HZ) HX HSO).mono ?_
      rintro e w1 ⟨⟨i, j, rfl⟩, hb1⟩
      have hbx : Below w1.heap.size w1 (w1.alloc (objTk' (k, s, i, j))) := (Below.refl _ _).alloc (Nat.le_refl _) _
      have A1 := (A0.on hb1).on hbx
      have hbw := bt (bt hb0 hb1) hbx
      clear A0 hl0
      go_wp2_with fail
      refine (name_any s _ hzm).mono ?_
      rintro e w2 ⟨rfl, hb2⟩
      rw [unhide HN]
      have A2 := A1.on hb2
      have hbw2 := bt hbw hb2
      obtain ⟨a0, a1, f0, f1⟩ : _ ∧ _ ∧ _ ∧ _ := ⟨A2.c0, A2.c1, A2.f0, A2.f1⟩
      clear A1 A2
      go_wp2_with fail
      refine bodyPost_ret (v := .tuple #[.agg #[.string ⟨#[]⟩, .slice none 0 0], .int .i64 p, .bool false]) (by simp [results, Tryz.results199, go_sem, a0, a1]) rfl ?_
      exact ⟨AtRes.no (unhide HR) rfl, below2 hbw2 (Nat.le_refl _) _ _⟩
    | true =>
      have hk1 : x.1 = 1 := ((name_solo (t := ktm x)).2 ⟨hso, hnm⟩).1
      have HN := hide hnm
      obtain ⟨q0, hq0⟩ : ∃ q, isM xs (p + 1) ⟨#[40]⟩ = q := ⟨_, rfl⟩
      have HQ0 := hide hq0
      have hip : Hid (((p + 1 : Nat) : Int) = (p : Int) + 1) := hide (by omega)
      have HRb : Hid (q0 = false → r = .ok ((x.2.1.data.toList, []), p + 1)) := hide (fun h => by
        rw [← unhide H]; exact readAt_bare hxm hk1 hnm (isM_f (hq0.trans h)))
      have HRo : Hid (q0 = true → accT x.2.1.data.toList [] (readTs ((xs.map ktm).drop (p + 2)) (p + 2)) = r) := hide (fun h => by
        rw [← unhide H]; exact (readAt_open hxm hk1 hnm (isM_t (hq0.trans h))).symm)
      obtain ⟨k, s, l0, c0⟩ := x
      simp only at hzm HN hk1 HRb HRo
      subst hk1
      have hq1 : Hid (q0 = true → p + 1 < n) := hide (fun h => by
        have h1 := isM_t (hq0.trans h)
        have h2 := (List.getElem?_eq_some_iff.1 h1).1
        rw [List.length_map] at h2
        have := hl.len; omega)
      clear hs H hx hso hxm hnm hzx hq0
      go_enter Tryz.func199, Tryz.ntmps199
      go_wp2_with fail
      refine (sign_some a n c xs p _ _ he0 hl0 (unhide HZ) HX HSO).mono ?_
      rintro e w1 ⟨⟨i, j, rfl⟩, hb1⟩
      have hbx : Below w1.heap.size w1 (w1.alloc (objTk' (1, s, i, j))) := (Below.refl _ _).alloc (Nat.le_refl _) _
      have A1 := (A0.on hb1).on hbx
      have hbw := bt (bt hb0 hb1) hbx
      obtain ⟨-, n1, -, -⟩ := quad4 (heap_alloc_new w1 (objTk' (1, s, i, j)))
      clear A0 hl0
      go_wp2_with fail
      refine (name_any s _ hzm).mono ?_
      rintro e w2 ⟨rfl, hb2⟩
      rw [unhide HN]
      have A2 := A1.on hb2
      have hbw2 := bt hbw hb2
      have n2 := cell_on hb2 n1
      obtain ⟨a0, a1, f0, f1⟩ : _ ∧ _ ∧ _ ∧ _ := ⟨A2.c0, A2.c1, A2.f0, A2.f1⟩
      have A3 := A2.set0 s
      have hbw3 : Below w.heap.size w (w2.setCell ⟨w.heap.size, 0, none⟩ (.string s)) := hbw2.setCell (p := ⟨w.heap.size, 0, none⟩) (Nat.le_refl _) _
      clear A1 A2 n1 hb1 hb2 hbx hbw hbw2 hb0 he0
      go_wp2_with fail
      clear a0 a1 f0 f1 n2
      generalize w2.setCell ⟨w.heap.size, 0, none⟩ (.string s) = W3 at A3 hbw3 ⊢
      refine (isMark_at a n c xs (p + 1) _ _ q0 _ (hl.on hbw3) hip HQ0).mono ?_
      rintro e w4 ⟨rfl, hw4⟩
      subst w4
      cases q0 with
      | false =>
        obtain ⟨a0, a1, f0, f1⟩ : _ ∧ _ ∧ _ ∧ _ := ⟨A3.c0, A3.c1, A3.f0, A3.f1⟩
        have HR := hide (unhide HRb rfl)
        clear hl he HRb HRo hq1
        go_wp2_with fail
        refine bodyPost_ret (v := .tuple #[.agg #[.string s, .slice none 0 0], .int .i64 ((p : Int) + 1), .bool true]) (by simp [results, Tryz.results199, go_sem, a0, a1]) rfl ?_
        exact ⟨AtRes.ok (unhide HR) (by omega) rfl (World.ownsRow_nil _ _ _ _), below2 hbw3 (Nat.le_refl _) _ _⟩
      | true =>
        have hpn := unhide hq1 rfl
        have HK0 := hide (unhide HRo rfl)
        obtain ⟨i0, hi, hz0, hz1, hz2⟩ := info_parts infoTm
        clear hq1 HRo HRb HQ0 hip
        go_wp2_with fail
        go_loopw [5] (fun nx wr => ∃ (q m cc : Nat) (ad : Option Addr) (ts : List Bb), nx = .int .i64 q ∧ q < n ∧ m ≤ q ∧ AB wr w.heap.size s (.slice ad m cc) ∧ wr.ownsRow (w.heap.size + 1) 141 4 (.slice ad m cc) m (flatB ts) ∧ Hid (accT s.data.toList ts (readTs ((xs.map ktm).drop (q + 1)) (q + 1)) = r) ∧ Below w.heap.size w wr) (fun nx _ => n - (intOf nx).toNat)
        case atStart => exact ⟨p + 1, 0, 0, none, [], by go_num, hpn, by omega, A3, World.ownsRow_nil _ _ _ _, HK0, hbw3⟩
        case round =>
          obtain ⟨q, m, cc, ad, ts, rfl, hqn, hmq, A, hown, HK, hbw⟩ := hrel
          clear A3 hbw3
          have hiq : Hid (((q + 1 : Nat) : Int) = (q : Int) + 1) := hide (by omega)
          obtain ⟨o, ho⟩ : ∃ o, kT (xs.map ktm) (q + 1) = o := ⟨_, rfl⟩
          have HO := hide ho
          cases o with
          | none =>
            have HR : Hid (r = .error (q + 1)) := hide (by rw [← unhide HK, readTs_none ho]; rfl)
            clear ho
            go_wp2_with fail
            refine (term_at a n c xs (q + 1) _ none _ (he.on hbw) (hl.on hbw) (unhide HZ) hiq HO).mono ?_
            rintro e w2 ⟨rfl, hb2⟩
            rw [show termV none = .tuple #[.agg #[.string ⟨#[]⟩, .int .i64 0, .int .i64 0, .string ⟨#[]⟩], .bool false] from rfl]
            have hbx : Below w2.heap.size w2 (w2.alloc (bxT (⟨#[]⟩, 0, 0, ⟨#[]⟩))) := (Below.refl _ _).alloc (Nat.le_refl _) _
            have A2 := (A.on hb2).on hbx
            have hbw2 := bt (bt hbw hb2) hbx
            obtain ⟨a0, a1, f0, f1⟩ : _ ∧ _ ∧ _ ∧ _ := ⟨A2.c0, A2.c1, A2.f0, A2.f1⟩
            clear A A2 hown hl he hbx hb2 hbw
            go_wp2_with fail
            refine bodyPost_ret (v := .tuple #[.agg #[.string ⟨#[]⟩, .slice none 0 0], .int .i64 ((q : Int) + 1), .bool false]) (by simp [results, Tryz.results199, go_sem, a0, a1]) rfl ?_
            exact ⟨AtRes.no (unhide HR) (by omega), below2 hbw2 (Nat.le_refl _) _ _⟩
          | some t =>
            obtain ⟨q1, hq1⟩ : ∃ b, isM xs (q + 2) ⟨#[41]⟩ = b := ⟨_, rfl⟩
            obtain ⟨q2, hq2⟩ : ∃ b, isM xs (q + 2) ⟨#[44]⟩ = b := ⟨_, rfl⟩
            have HQ1 := hide hq1
            have HQ2 := hide hq2
            have hiq2 : Hid (((q + 2 : Nat) : Int) = (q : Int) + 2) := hide (by omega)
            have HR1 : Hid (q1 = true → r = .ok ((s.data.toList, ts ++ [t]), q + 3)) := hide (fun h => by
              rw [← unhide HK, readTs_close ho (isM_t (hq1.trans h))]; rfl)
            have HR2 : Hid (q1 = false → q2 = false → r = .error (q + 2)) := hide (fun h h' => by
              rw [← unhide HK, readTs_bad ho (isM_f (hq1.trans h)) (isM_f (hq2.trans h'))]; rfl)
            have HR3 : Hid (q2 = true → accT s.data.toList (ts ++ [t]) (readTs ((xs.map ktm).drop (q + 2 + 1)) (q + 2 + 1)) = r ∧ q + 2 < n) := hide (fun h => by
              have h1 := isM_t (hq2.trans h)
              have h2 := (List.getElem?_eq_some_iff.1 h1).1
              rw [List.length_map] at h2
              refine ⟨?_, by have := hl.len; omega⟩
              rw [← unhide HK]
              exact (accT_more _ _ ho h1).symm)
            clear ho hq1 hq2 HK
            go_wp2_with fail
            refine (term_at a n c xs (q + 1) _ (some t) _ (he.on hbw) (hl.on hbw) (unhide HZ) hiq HO).mono ?_
            rintro e w2 ⟨rfl, hb2⟩
            rw [show termV (some t) = .tuple #[.agg #[.string t.1, .int .i64 t.2.1, .int .i64 t.2.2.1, .string t.2.2.2], .bool true] from rfl]
            have hbx : Below w2.heap.size w2 (w2.alloc (bxT t)) := (Below.refl _ _).alloc (Nat.le_refl _) _
            have A2 := (A.on hb2).on hbx
            have hbw2 := bt (bt hbw hb2) hbx
            have hs2 := (own_on (own_on hown hb2) hbx).alloc (bxT t)
            have hbw2' := hbw2.alloc hbw2.size (bxT t)
            have A2' := A2.alloc (bxT t)
            obtain ⟨a0, a1, f0, f1⟩ : _ ∧ _ ∧ _ ∧ _ := ⟨A2.c0, A2.c1, A2.f0, A2.f1⟩
            obtain ⟨t0, t1, t2, t3⟩ := quadT (heap_alloc_new w2 (bxT t))
            have hcv := hide (cells_b (box_twoB w2 (bxT t) t))
            have hsz : w.heap.size + 1 ≤ ((w2.alloc (bxT t)).alloc (bxT t)).heap.size := by have := A.lt; have := hb2.size; simp; omega
            clear A A2 hown hbx hb2 hbw hbw2
            go_wp2_with (at_builtin; refine wpList_append_own_wide _ rfl _ _ 44 rfl (w.heap.size + 1) 141 i0 (.agg #[.string ⟨#[]⟩, .int .i64 0, .int .i64 0, .string ⟨#[]⟩]) 4 48 Tryz.underlying44 hi hz0 hz1 hz2 rfl (by decide) _ m (flatB ts) rfl hs2 ⟨w2.heap.size + 1, 0, none⟩ 1 1 (flatB [t]) rfl ?c0 ?c1 ?c2 ?c3 ?c4 ?c5 ?_)
            case c0 => rfl
            case c1 => exact unhide hcv
            case c2 => exact flatB_oneCell [t]
            case c3 => unfold maxLen; omega
            case c4 => omega
            case c5 => exact hsz
            intro v' w3 hown3 hgrow hnil3
            obtain ⟨aq, cq, rfl⟩ := own_slice hown3
            have A3 := A2'.grown hgrow (fun e => by have := (hs2.lt w.heap.size e).1; omega)
            have hbw3 := hbw2'.grown hgrow (by omega) (fun k hk => by have := (hs2.lt k hk).1; omega)
            rw [← flatB_app] at hown3
            have hne : ∀ g, (Value.slice aq (m + 1) cq).ownBlock = some g → g ≠ w.heap.size := fun g hg => by have := (hown3.lt g hg).1; omega
            clear hgrow hnil3 hs2 hcv A2' hbw2' a0 a1 f0 f1 t0 t1 t2 t3
            obtain ⟨b0, b1, g0, g1⟩ : _ ∧ _ ∧ _ ∧ _ := ⟨A3.c0, A3.c1, A3.f0, A3.f1⟩
            go_wp2_with fail
            have A4 := A3.set1 (.slice aq (m + 1) cq)
            have hbw4 : Below w.heap.size w (w3.setCell ⟨w.heap.size, 1, none⟩ (.slice aq (m + 1) cq)) := hbw3.setCell (p := ⟨w.heap.size, 1, none⟩) (Nat.le_refl _) _
            have own4 := ownsRow_setCell_other hown3 (a := ⟨w.heap.size, 1, none⟩) (fun e => hne _ e rfl) (.slice aq (m + 1) cq)
            clear b0 b1 g0 g1 A3 hbw3 hown3
            generalize w3.setCell ⟨w.heap.size, 1, none⟩ (.slice aq (m + 1) cq) = W4 at A4 hbw4 own4 ⊢
            refine (isMark_at a n c xs (q + 2) _ _ q1 _ (hl.on hbw4) hiq2 HQ1).mono ?_
            rintro e w5 ⟨rfl, hw5⟩
            subst w5
            cases q1 with
            | true =>
              have HR := hide (unhide HR1 rfl)
              obtain ⟨a0, a1, f0, f1⟩ : _ ∧ _ ∧ _ ∧ _ := ⟨A4.c0, A4.c1, A4.f0, A4.f1⟩
              have own5 := ownsRow_setCell_other (ownsRow_setCell_other own4 (a := ⟨w.heap.size, 0, none⟩) (fun e => hne _ e rfl) (.string s)) (a := ⟨w.heap.size, 1, none⟩) (fun e => hne _ e rfl) (.slice aq (m + 1) cq)
              clear HR1 HR2 HR3 hl he A4
              go_wp2_with fail
              refine bodyPost_ret (v := .tuple #[.agg #[.string s, .slice aq (m + 1) cq], .int .i64 ((q : Int) + 2 + 1), .bool true]) (by simp [results, Tryz.results199, go_sem, a0, a1]) rfl ?_
              exact ⟨AtRes.ok (unhide HR) (by omega) rfl (own_mono own5 (by omega)), below2 hbw4 (Nat.le_refl _) _ _⟩
            | false =>
              cases q2 with
              | false =>
                have HR := hide (unhide HR2 rfl rfl)
                clear HR1 HR2 HR3
                go_wp2_with fail
                refine (isMark_at a n c xs (q + 2) _ _ false _ (hl.on hbw4) hiq2 HQ2).mono ?_
                rintro e w5 ⟨rfl, hw5⟩
                subst w5
                obtain ⟨a0, a1, f0, f1⟩ : _ ∧ _ ∧ _ ∧ _ := ⟨A4.c0, A4.c1, A4.f0, A4.f1⟩
                clear hl he A4
                go_wp2_with fail
                refine bodyPost_ret (v := .tuple #[.agg #[.string ⟨#[]⟩, .slice none 0 0], .int .i64 ((q : Int) + 2), .bool false]) (by simp [results, Tryz.results199, go_sem, a0, a1]) rfl ?_
                exact ⟨AtRes.no (unhide HR) (by omega), below2 hbw4 (Nat.le_refl _) _ _⟩
              | true =>
                have HR := hide (unhide HR3 rfl).1
                have hq2n := (unhide HR3 rfl).2
                clear HR1 HR2 HR3
                go_wp2_with fail
                refine (isMark_at a n c xs (q + 2) _ _ true _ (hl.on hbw4) hiq2 HQ2).mono ?_
                rintro e w5 ⟨rfl, hw5⟩
                subst w5
                go_wp2_with fail
                go_roundw
                case rel => exact ⟨q + 2, m + 1, cq, aq, ts ++ [t], by go_num, hq2n, by omega, A4, own4, HR, hbw4⟩
                case measure => simp [intOf]; omega
end Go.Proofs.YtcjnhhbcleljmaaGreatDoor.Sb
