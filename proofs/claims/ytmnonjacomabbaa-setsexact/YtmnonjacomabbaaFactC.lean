/- What slices.CompareFunc over values and fact.Compare answer. -/
import Derived.Test.YtmnonjacomabbaaFactB
namespace Go.Proofs.Ytmnonjacomabbaa
open Go.RowKit
open V

def or2 (x y : Int) : Int := if x ≠ 0 then x else y
theorem or2_x {x y : Int} (h : x ≠ 0) : or2 x y = x := if_pos h
theorem or2_y {y : Int} : or2 0 y = y := by simp [or2]

set_option maxHeartbeats 1000000 in
theorem or2_any (x y : Int) (b : Nat) (w : World) (h0 : w.cell? ⟨b, 0, none⟩ = some (.int .i64 x)) (h1 : w.cell? ⟨b, 1, none⟩ = some (.int .i64 y)) :
    Calls Try.prog 41 #[.slice (some ⟨b, 0, none⟩) 2 2] w fun e w' => e = .returned (.int .i64 (or2 x y)) ∧ w' = w := by
  go_enter Try.func41, Try.ntmps41
  go_wp2
  go_loop [5, 8] (fun _ i => ∃ k : Nat, k ≤ 2 ∧ i = .int .i64 k ∧ Hid ((1 ≤ k → x = 0) ∧ (2 ≤ k → y = 0))) (fun _ i => 2 - (intOf i).toNat)
  case atStart => exact ⟨0, by omega, rfl, by refine ⟨?_, ?_⟩ <;> (intro h; omega)⟩
  case round =>
    obtain ⟨k, hk, rfl, HK⟩ := hrel
    have hkc : k = 0 ∨ k = 1 ∨ k = 2 := by omega
    rcases hkc with rfl | rfl | rfl
    · by_cases hx : x = 0
      · have c0 : (x != 0) = false := by simp [hx]
        have HX := hide hx
        clear hx
        go_wp2
        go_round
        case rel => exact ⟨1, by omega, by go_num, by refine ⟨?_, ?_⟩; (intro _; exact unhide HX); (intro h; omega)⟩
        case measure => simp [intOf]
      · have c0 : (x != 0) = true := by simp [hx]
        go_wp2
        go_ret
        exact ⟨ret_int (by rw [or2_x hx]), rfl⟩
    · have hx : x = 0 := (unhide HK).1 (by omega)
      have HX := hide hx
      clear hx
      by_cases hy : y = 0
      · have c0 : (y != 0) = false := by simp [hy]
        have HY := hide hy
        clear hy
        go_wp2
        go_round
        case rel => exact ⟨2, by omega, by go_num, by refine ⟨?_, ?_⟩; (intro _; exact unhide HX); (intro _; exact unhide HY)⟩
        case measure => simp [intOf]
      · have c0 : (y != 0) = true := by simp [hy]
        go_wp2
        go_ret
        exact ⟨ret_int (by rw [unhide HX, or2_y]), rfl⟩
    · go_wp2
      go_ret
      exact ⟨ret_int (by rw [(unhide HK).1 (by omega), (unhide HK).2 (by omega), or2_y]), rfl⟩

theorem or2_at (x y : Int) (b : Nat) (W : World) (hb : W.heap.size = b) :
    Calls Try.prog 41 #[.slice (some ⟨b, 0, none⟩) 2 2] (W.alloc (.cells #[.int .i64 x, .int .i64 y] 3)).drew fun e w' => e = .returned (.int .i64 (or2 x y)) ∧ w' = (W.alloc (.cells #[.int .i64 x, .int .i64 y] 3)).drew := by
  subst hb
  have hk : (W.alloc (.cells #[.int .i64 x, .int .i64 y] 3)).drew.heap[W.heap.size]? = some (.cells #[.int .i64 x, .int .i64 y] 3) := heap_alloc_new W _
  exact or2_any x y _ _ (by rw [Lib.cell_of_heap hk]; rfl) (by rw [Lib.cell_of_heap hk]; rfl)

theorem lex_cons {α β : Type} {f : β → β → Int} {g : α → β} {xs ys : List α} {k : Nat} (hx : k < xs.length) (hy : k < ys.length) :
    lexL f ((xs.drop k).map g) ((ys.drop k).map g) = if f (g xs[k]) (g ys[k]) ≠ 0 then f (g xs[k]) (g ys[k]) else lexL f ((xs.drop (k + 1)).map g) ((ys.drop (k + 1)).map g) := by
  rw [List.drop_eq_getElem_cons hx, List.drop_eq_getElem_cons hy]; rfl
theorem lex_right {α β : Type} {f : β → β → Int} {g : α → β} {xs ys : List α} {k : Nat} (hx : k < xs.length) (hy : ys.length ≤ k) :
    lexL f ((xs.drop k).map g) ((ys.drop k).map g) = 1 := by
  rw [List.drop_eq_getElem_cons hx, List.drop_eq_nil_of_le hy]; rfl
theorem lex_left {α β : Type} {f : β → β → Int} {g : α → β} {xs ys : List α} {k : Nat} (hx : xs.length ≤ k) (hy : k < ys.length) :
    lexL f ((xs.drop k).map g) ((ys.drop k).map g) = -1 := by
  rw [List.drop_eq_getElem_cons hy, List.drop_eq_nil_of_le hx]; rfl
theorem lex_both {α β : Type} {f : β → β → Int} {g : α → β} {xs ys : List α} {k : Nat} (hx : xs.length ≤ k) (hy : ys.length ≤ k) :
    lexL f ((xs.drop k).map g) ((ys.drop k).map g) = 0 := by
  rw [List.drop_eq_nil_of_le hy, List.drop_eq_nil_of_le hx]; rfl

theorem compare_vb (x y : Vb) (w : World) :
    Calls Try.prog 45 #[.agg #[.int .i64 x.k, .int .i64 x.n, .string x.s], .agg #[.int .i64 y.k, .int .i64 y.n, .string y.s]] w fun e w' => e = .returned (.int .i64 (cmpV x.l y.l)) ∧ Below w.heap.size w w' :=
  compare_any _ _ _ _ _ _ w

set_option maxHeartbeats 2000000 in
theorem lexV_any (a a' : Option Addr) (len len' cap cap' : Nat) (xs ys : List Vb) (w : World) (hr : RowV w a xs) (hr' : RowV w a' ys) (hl : len ≤ xs.length) (hl' : xs.length ≤ len) (hm : len' ≤ ys.length) (hm' : ys.length ≤ len') (h20 : len ≤ 1000) :
    Calls Try.prog 44 #[.slice a len cap, .slice a' len' cap', .func (.func 45) #[] #[]] w fun e w' => e = .returned (.int .i64 (lexL cmpV (xs.map Vb.l) (ys.map Vb.l))) ∧ Below w.heap.size w w' := by
  go_enter Try.func44, Try.ntmps44
  go_wp2_with fail
  go_loopw [7, 8, 9, 10, 13] (fun _ _ _ _ i wr => ∃ k : Nat, k ≤ len ∧ k ≤ len' ∧ i = .int .i64 k ∧ Hid (lexL cmpV (xs.map Vb.l) (ys.map Vb.l) = lexL cmpV ((xs.drop k).map Vb.l) ((ys.drop k).map Vb.l)) ∧ Below w.heap.size w wr) (fun _ _ _ _ i _ => len - (intOf i).toNat)
  case atStart => exact ⟨0, Nat.zero_le _, Nat.zero_le _, rfl, hide (by simp), Below.refl _ _⟩
  case round =>
    obtain ⟨k, hk, hk', rfl, HK, hbw⟩ := hrel
    by_cases hlt : k < len
    · obtain ⟨b, o, ha, hbl, c0, c1, c2⟩ := (hr.on hbw).up (show k < xs.length by omega)
      subst ha
      by_cases hlt' : k < len'
      · obtain ⟨b', o', ha', hbl', c0', c1', c2'⟩ := (hr'.on hbw).up (show k < ys.length by omega)
        subst ha'
        have hbx : Below w.heap.size w ((wr.alloc (.cells #[.int .i64 xs[k].k, .int .i64 xs[k].n, .string xs[k].s] 47)).alloc (.cells #[.int .i64 ys[k].k, .int .i64 ys[k].n, .string ys[k].s] 47)) := (hbw.alloc hbw.size _).alloc (by have := hbw.size; simp; omega) _
        have HC := hide (lex_cons (f := cmpV) (g := Vb.l) (show k < xs.length by omega) (show k < ys.length by omega))
        go_wp2_with (go_at_call 45; refine (compare_vb _ _ _).mono ?_; rintro e w2 ⟨rfl, hb2⟩; refine Hid.out ?_)
        refine Lib.hid ?_
        by_cases hz : cmpV xs[k].l ys[k].l = 0
        · have d0 : (cmpV xs[k].l ys[k].l != 0) = false := by simp [hz]
          have HN : Hid (lexL cmpV (xs.map Vb.l) (ys.map Vb.l) = lexL cmpV ((xs.drop (k + 1)).map Vb.l) ((ys.drop (k + 1)).map Vb.l)) := by
            show _ = _
            rw [unhide HK, unhide HC, hz]; simp
          clear hz
          go_wp2_with fail
          go_roundw
          case rel => exact ⟨k + 1, by omega, by omega, by go_num, HN, bt hbx hb2⟩
          case measure => simp [intOf]; omega
        · have d0 : (cmpV xs[k].l ys[k].l != 0) = true := by simp [hz]
          have HN : Hid (lexL cmpV (xs.map Vb.l) (ys.map Vb.l) = cmpV xs[k].l ys[k].l) := by
            show _ = _
            rw [unhide HK, unhide HC, if_pos hz]
          clear hz
          go_wp2_with fail
          go_ret
          exact ⟨ret_int (unhide HN).symm, bt hbx hb2⟩
      · have HN : Hid (lexL cmpV (xs.map Vb.l) (ys.map Vb.l) = 1) := by
          show _ = _
          rw [unhide HK, lex_right (by omega) (by omega)]
        have hbx : Below w.heap.size w (wr.alloc (.cells #[.int .i64 xs[k].k, .int .i64 xs[k].n, .string xs[k].s] 47)) := hbw.alloc hbw.size _
        go_wp2_with fail
        go_ret
        exact ⟨ret_int (unhide HN).symm, hbx⟩
    · by_cases hlt' : k < len'
      · have HN : Hid (lexL cmpV (xs.map Vb.l) (ys.map Vb.l) = -1) := by
          show _ = _
          rw [unhide HK, lex_left (by omega) (by omega)]
        go_wp2_with fail
        go_ret
        exact ⟨ret_int (unhide HN).symm, hbw⟩
      · have HN : Hid (lexL cmpV (xs.map Vb.l) (ys.map Vb.l) = 0) := by
          show _ = _
          rw [unhide HK, lex_both (by omega) (by omega)]
        go_wp2_with fail
        go_ret
        exact ⟨ret_int (unhide HN).symm, hbw⟩

theorem cmpF_or (n n' : List UInt8) (xs ys : List Vl) : cmpF (n, xs) (n', ys) = if or2 (Lib.compareBytes n n') (Lib.compareInt xs.length ys.length) ≠ 0 then or2 (Lib.compareBytes n n') (Lib.compareInt xs.length ys.length) else lexL cmpV xs ys := by
  unfold cmpF or2
  simp only
  split
  · rfl
  · split <;> rfl

set_option maxHeartbeats 2000000 in
theorem fcompare_any (n n' : ByteArray) (a a' : Option Addr) (len len' cap cap' : Nat) (xs ys : List Vb) (w : World) (hr : RowV w a xs) (hr' : RowV w a' ys) (hl : len ≤ xs.length) (hl' : xs.length ≤ len) (hm : len' ≤ ys.length) (hm' : ys.length ≤ len') (h20 : len ≤ 1000) :
    Calls Try.prog 27 #[.agg #[.string n, .slice a len cap], .agg #[.string n', .slice a' len' cap']] w fun e w' => e = .returned (.int .i64 (cmpF (n.data.toList, xs.map Vb.l) (n'.data.toList, ys.map Vb.l))) ∧ Below w.heap.size w w' := by
  have HC : Hid (cmpF (n.data.toList, xs.map Vb.l) (n'.data.toList, ys.map Vb.l) = if or2 (Lib.compareBytes n.data.toList n'.data.toList) (Lib.compareInt len len') ≠ 0 then or2 (Lib.compareBytes n.data.toList n'.data.toList) (Lib.compareInt len len') else lexL cmpV (xs.map Vb.l) (ys.map Vb.l)) := by
    show _ = _
    rw [cmpF_or, List.length_map, List.length_map, show xs.length = len by omega, show ys.length = len' by omega]
  go_enter Try.func27, Try.ntmps27
  go_wp2
  go_region_held3 (fun w' => w'.cell? ⟨w.heap.size, 0, none⟩ = some (.string n) ∧ w'.cell? ⟨w.heap.size, 1, none⟩ = some (.slice a len cap) ∧ w'.cell? ⟨w.heap.size + 1, 0, none⟩ = some (.string n') ∧ w'.cell? ⟨w.heap.size + 1, 1, none⟩ = some (.slice a' len' cap')) (go_keep) (first | (go_at_call 43; refine (Try.cmp_Compare_int _ _ _).mono ?_; rintro e w' ⟨rfl, rfl⟩) | (go_at_call 42; refine (Try.strings_Compare _ _ _).mono ?_; rintro e w' ⟨rfl, rfl⟩) | (go_at_call 41; refine (or2_at _ _ _ _ (by simp)).mono ?_; rintro e w' ⟨rfl, rfl⟩))
  have hbw : Below w.heap.size w (((w.alloc (.cells #[.string n, .slice a len cap] 25)).alloc (.cells #[.string n', .slice a' len' cap'] 25)).alloc (.cells #[.int .i64 (Lib.compareBytes n.data.toList n'.data.toList), .int .i64 (Lib.compareInt len len')] 3)).drew := ((((Below.refl _ _).alloc (Nat.le_refl _) _).alloc (by simp) _).alloc (by simp; omega) _).drew
  by_cases hz : or2 (Lib.compareBytes n.data.toList n'.data.toList) (Lib.compareInt len len') = 0
  · have c0 : (or2 (Lib.compareBytes n.data.toList n'.data.toList) (Lib.compareInt len len') != 0) = false := by simp [hz]
    have HZ : Hid (lexL cmpV (xs.map Vb.l) (ys.map Vb.l) = cmpF (n.data.toList, xs.map Vb.l) (n'.data.toList, ys.map Vb.l)) := by
      show _ = _
      rw [unhide HC, hz]; simp
    clear hz
    go_wp2_with fail
    refine (lexV_any a a' len len' cap cap' xs ys _ (hr.on hbw) (hr'.on hbw) hl hl' hm hm' h20).mono ?_
    rintro e w2 ⟨rfl, hb2⟩
    go_wp2_with fail
    go_ret
    exact ⟨ret_int (unhide HZ), bt hbw hb2⟩
  · have c0 : (or2 (Lib.compareBytes n.data.toList n'.data.toList) (Lib.compareInt len len') != 0) = true := by simp [hz]
    have HZ : Hid (or2 (Lib.compareBytes n.data.toList n'.data.toList) (Lib.compareInt len len') = cmpF (n.data.toList, xs.map Vb.l) (n'.data.toList, ys.map Vb.l)) := by
      show _ = _
      rw [unhide HC, if_pos hz]
    clear hz
    go_wp2_with fail
    go_ret
    exact ⟨ret_int (unhide HZ), hbw⟩

/-- Of two facts that lie in memory. -/
theorem fcompare_fb (f g : Fb) (w : World) (hf : f.In w) (hg : g.In w) (h20 : f.len ≤ 1000) :
    Calls Try.prog 27 #[.agg #[.string f.n, .slice f.a f.len f.cap], .agg #[.string g.n, .slice g.a g.len g.cap]] w fun e w' => e = .returned (.int .i64 (cmpF f.l g.l)) ∧ Below w.heap.size w w' :=
  fcompare_any _ _ _ _ _ _ _ _ _ _ w hf.row hg.row (by rw [hf.len]; omega) (by rw [hf.len]; omega) (by rw [hg.len]; omega) (by rw [hg.len]; omega) h20
end Go.Proofs.Ytmnonjacomabbaa
