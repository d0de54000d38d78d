/- What fact.Compare leaves of memory, to the count of the draws: what the sort asks. -/
import Derived.Test.YtmnonjacomabbaaFactR
import Derived.Sort.Grow
namespace Go.Proofs.Ytmnonjacomabbaa
open Go.RowKit
open V

/-- Of what was there nothing has turned, and no draw was taken back. -/
structure Grew (w w' : World) : Prop where
  b : Below w.heap.size w w'
  d : w.drawn ≤ w'.drawn
theorem Grew.refl (w : World) : Grew w w := ⟨Below.refl _ _, Nat.le_refl _⟩
theorem Grew.trans {a b c : World} (h : Grew a b) (k : Grew b c) : Grew a c := ⟨bt h.b k.b, Nat.le_trans h.d k.d⟩
theorem Grew.alloc {a w : World} (h : Grew a w) (o : Obj) : Grew a (w.alloc o) := ⟨h.b.alloc h.b.size _, h.d⟩
theorem Grew.drew {a w : World} (h : Grew a w) : Grew a w.drew := ⟨h.b.drew, Nat.le_succ_of_le h.d⟩
theorem Grew.out {w w' : World} (h : Grew w w') : ∃ q os, w' = Sort.grow (w.drewN q) os := by
  obtain ⟨hb, hd⟩ := h
  refine ⟨w'.drawn - w.drawn, w'.heap.extract w.heap.size w'.heap.size, ?_⟩
  obtain ⟨heap', tape', drawn', os', output'⟩ := w'
  have e1 : os' = w.os := hb.os
  have e2 : tape' = w.tape := hb.tape
  have e3 : output' = w.output := hb.output
  have hs : w.heap.size ≤ heap'.size := hb.size
  have hbl : ∀ k, k < w.heap.size → heap'[k]? = w.heap[k]? := hb.block
  have hd' : w.drawn ≤ drawn' := hd
  subst e1 e2 e3
  have eh : heap' = w.heap ++ heap'.extract w.heap.size heap'.size := by
    apply Array.ext_getElem?
    intro k
    by_cases hk : k < w.heap.size
    · rw [Array.getElem?_append_left hk]; exact hbl k hk
    · rw [Array.getElem?_append_right (by omega), Array.getElem?_extract]
      by_cases hk2 : k < heap'.size
      · rw [if_pos (by omega)]; congr 1; omega
      · rw [if_neg (by omega), Array.getElem?_eq_none (by omega)]
  simp only [Sort.grow, World.drewN]
  congr 1
  omega

set_option maxHeartbeats 2000000 in
theorem compare_g (x y : Vb) (w : World) :
    Calls Try.prog 45 #[.agg #[.int .i64 x.k, .int .i64 x.n, .string x.s], .agg #[.int .i64 y.k, .int .i64 y.n, .string y.s]] w fun e w' => e = .returned (.int .i64 (cmpV x.l y.l)) ∧ Grew w w' := by
  obtain ⟨k, n, s⟩ := x
  obtain ⟨k', n', s'⟩ := y
  show Calls Try.prog 45 #[.agg #[.int .i64 k, .int .i64 n, .string s], .agg #[.int .i64 k', .int .i64 n', .string s']] w fun e w' => e = .returned (.int .i64 (or3 (Lib.compareInt k k') (Lib.compareInt n n') (Lib.compareBytes s.data.toList s'.data.toList))) ∧ Grew w w'
  go_enter Try.func45, Try.ntmps45
  go_wp2
  go_region_held3 (fun w' => w'.cell? ⟨w.heap.size, 0, none⟩ = some (.int .i64 k) ∧ w'.cell? ⟨w.heap.size, 1, none⟩ = some (.int .i64 n) ∧ w'.cell? ⟨w.heap.size, 2, none⟩ = some (.string s) ∧ w'.cell? ⟨w.heap.size + 1, 0, none⟩ = some (.int .i64 k') ∧ w'.cell? ⟨w.heap.size + 1, 1, none⟩ = some (.int .i64 n') ∧ w'.cell? ⟨w.heap.size + 1, 2, none⟩ = some (.string s')) (go_keep) (first | (go_at_call 43; refine (Try.cmp_Compare_int _ _ _).mono ?_; rintro e w' ⟨rfl, rfl⟩) | (go_at_call 42; refine (Try.strings_Compare _ _ _).mono ?_; rintro e w' ⟨rfl, rfl⟩) | (go_at_call 41; refine (or_at _ _ _ _ _ (by simp)).mono ?_; rintro e w' ⟨rfl, rfl⟩))
  go_wp2
  go_ret
  exact ⟨rfl, ((((Grew.refl w).alloc _).alloc _).alloc _).drew⟩

set_option maxHeartbeats 2000000 in
theorem lexV_g (a a' : Option Addr) (len len' cap cap' : Nat) (xs ys : List Vb) (w : World) (hr : RowV w a xs) (hr' : RowV w a' ys) (hl : len ≤ xs.length) (hl' : xs.length ≤ len) (hm : len' ≤ ys.length) (hm' : ys.length ≤ len') (h20 : len ≤ 1000) :
    Calls Try.prog 44 #[.slice a len cap, .slice a' len' cap', .func (.func 45) #[] #[]] w fun e w' => e = .returned (.int .i64 (lexL cmpV (xs.map Vb.l) (ys.map Vb.l))) ∧ Grew w w' := by
  go_enter Try.func44, Try.ntmps44
  go_wp2_with fail
  go_loopw [7, 8, 9, 10, 13] (fun _ _ _ _ i wr => ∃ k : Nat, k ≤ len ∧ k ≤ len' ∧ i = .int .i64 k ∧ Hid (lexL cmpV (xs.map Vb.l) (ys.map Vb.l) = lexL cmpV ((xs.drop k).map Vb.l) ((ys.drop k).map Vb.l)) ∧ Grew w wr) (fun _ _ _ _ i _ => len - (intOf i).toNat)
  case atStart => exact ⟨0, Nat.zero_le _, Nat.zero_le _, rfl, hide (by simp), Grew.refl _⟩
  case round =>
    obtain ⟨k, hk, hk', rfl, HK, hgw⟩ := hrel
    have hbw := hgw.b
    by_cases hlt : k < len
    · obtain ⟨b, o, ha, hbl, c0, c1, c2⟩ := (hr.on hbw).up (show k < xs.length by omega)
      subst ha
      by_cases hlt' : k < len'
      · obtain ⟨b', o', ha', hbl', c0', c1', c2'⟩ := (hr'.on hbw).up (show k < ys.length by omega)
        subst ha'
        have hbx : Grew w ((wr.alloc (.cells #[.int .i64 xs[k].k, .int .i64 xs[k].n, .string xs[k].s] 47)).alloc (.cells #[.int .i64 ys[k].k, .int .i64 ys[k].n, .string ys[k].s] 47)) := (hgw.alloc _).alloc _
        have HC := hide (lex_cons (f := cmpV) (g := Vb.l) (show k < xs.length by omega) (show k < ys.length by omega))
        go_wp2_with (go_at_call 45; refine (compare_g _ _ _).mono ?_; rintro e w2 ⟨rfl, hb2⟩; refine Hid.out ?_)
        refine Lib.hid ?_
        by_cases hz : cmpV xs[k].l ys[k].l = 0
        · have d0 : (cmpV xs[k].l ys[k].l != 0) = false := by simp [hz]
          have HN : Hid (lexL cmpV (xs.map Vb.l) (ys.map Vb.l) = lexL cmpV ((xs.drop (k + 1)).map Vb.l) ((ys.drop (k + 1)).map Vb.l)) := by
            show _ = _
            rw [unhide HK, unhide HC, hz]; simp
          clear hz
          go_wp2_with fail
          go_roundw
          case rel => exact ⟨k + 1, by omega, by omega, by go_num, HN, hbx.trans hb2⟩
          case measure => simp [intOf]; omega
        · have d0 : (cmpV xs[k].l ys[k].l != 0) = true := by simp [hz]
          have HN : Hid (lexL cmpV (xs.map Vb.l) (ys.map Vb.l) = cmpV xs[k].l ys[k].l) := by
            show _ = _
            rw [unhide HK, unhide HC, if_pos hz]
          clear hz
          go_wp2_with fail
          go_ret
          exact ⟨ret_int (unhide HN).symm, hbx.trans hb2⟩
      · have HN : Hid (lexL cmpV (xs.map Vb.l) (ys.map Vb.l) = 1) := by
          show _ = _
          rw [unhide HK, lex_right (by omega) (by omega)]
        have hbx : Grew w (wr.alloc (.cells #[.int .i64 xs[k].k, .int .i64 xs[k].n, .string xs[k].s] 47)) := hgw.alloc _
        go_wp2_with fail
        go_ret
        exact ⟨ret_int (unhide HN).symm, hbx⟩
    · by_cases hlt' : k < len'
      · have HN : Hid (lexL cmpV (xs.map Vb.l) (ys.map Vb.l) = -1) := by
          show _ = _
          rw [unhide HK, lex_left (by omega) (by omega)]
        go_wp2_with fail
        go_ret
        exact ⟨ret_int (unhide HN).symm, hgw⟩
      · have HN : Hid (lexL cmpV (xs.map Vb.l) (ys.map Vb.l) = 0) := by
          show _ = _
          rw [unhide HK, lex_both (by omega) (by omega)]
        go_wp2_with fail
        go_ret
        exact ⟨ret_int (unhide HN).symm, hgw⟩

set_option maxHeartbeats 2000000 in
theorem fcompare_g (n n' : ByteArray) (a a' : Option Addr) (len len' cap cap' : Nat) (xs ys : List Vb) (w : World) (hr : RowV w a xs) (hr' : RowV w a' ys) (hl : len ≤ xs.length) (hl' : xs.length ≤ len) (hm : len' ≤ ys.length) (hm' : ys.length ≤ len') (h20 : len ≤ 1000) :
    Calls Try.prog 27 #[.agg #[.string n, .slice a len cap], .agg #[.string n', .slice a' len' cap']] w fun e w' => e = .returned (.int .i64 (cmpF (n.data.toList, xs.map Vb.l) (n'.data.toList, ys.map Vb.l))) ∧ Grew w w' := by
  have HC : Hid (cmpF (n.data.toList, xs.map Vb.l) (n'.data.toList, ys.map Vb.l) = if or2 (Lib.compareBytes n.data.toList n'.data.toList) (Lib.compareInt len len') ≠ 0 then or2 (Lib.compareBytes n.data.toList n'.data.toList) (Lib.compareInt len len') else lexL cmpV (xs.map Vb.l) (ys.map Vb.l)) := by
    show _ = _
    rw [cmpF_or, List.length_map, List.length_map, show xs.length = len by omega, show ys.length = len' by omega]
  go_enter Try.func27, Try.ntmps27
  go_wp2
  go_region_held3 (fun w' => w'.cell? ⟨w.heap.size, 0, none⟩ = some (.string n) ∧ w'.cell? ⟨w.heap.size, 1, none⟩ = some (.slice a len cap) ∧ w'.cell? ⟨w.heap.size + 1, 0, none⟩ = some (.string n') ∧ w'.cell? ⟨w.heap.size + 1, 1, none⟩ = some (.slice a' len' cap')) (go_keep) (first | (go_at_call 43; refine (Try.cmp_Compare_int _ _ _).mono ?_; rintro e w' ⟨rfl, rfl⟩) | (go_at_call 42; refine (Try.strings_Compare _ _ _).mono ?_; rintro e w' ⟨rfl, rfl⟩) | (go_at_call 41; refine (or2_at _ _ _ _ (by simp)).mono ?_; rintro e w' ⟨rfl, rfl⟩))
  have hgw : Grew w (((w.alloc (.cells #[.string n, .slice a len cap] 25)).alloc (.cells #[.string n', .slice a' len' cap'] 25)).alloc (.cells #[.int .i64 (Lib.compareBytes n.data.toList n'.data.toList), .int .i64 (Lib.compareInt len len')] 3)).drew := ((((Grew.refl w).alloc _).alloc _).alloc _).drew
  have hbw := hgw.b
  by_cases hz : or2 (Lib.compareBytes n.data.toList n'.data.toList) (Lib.compareInt len len') = 0
  · have c0 : (or2 (Lib.compareBytes n.data.toList n'.data.toList) (Lib.compareInt len len') != 0) = false := by simp [hz]
    have HZ : Hid (lexL cmpV (xs.map Vb.l) (ys.map Vb.l) = cmpF (n.data.toList, xs.map Vb.l) (n'.data.toList, ys.map Vb.l)) := by
      show _ = _
      rw [unhide HC, hz]; simp
    clear hz
    go_wp2_with fail
    refine (lexV_g a a' len len' cap cap' xs ys _ (hr.on hbw) (hr'.on hbw) hl hl' hm hm' h20).mono ?_
    rintro e w2 ⟨rfl, hb2⟩
    go_wp2_with fail
    go_ret
    exact ⟨ret_int (unhide HZ), hgw.trans hb2⟩
  · have c0 : (or2 (Lib.compareBytes n.data.toList n'.data.toList) (Lib.compareInt len len') != 0) = true := by simp [hz]
    have HZ : Hid (or2 (Lib.compareBytes n.data.toList n'.data.toList) (Lib.compareInt len len') = cmpF (n.data.toList, xs.map Vb.l) (n'.data.toList, ys.map Vb.l)) := by
      show _ = _
      rw [unhide HC, if_pos hz]
    clear hz
    go_wp2_with fail
    go_ret
    exact ⟨ret_int (unhide HZ), hgw⟩

/-- Of two facts that lie in memory. -/
theorem fcompare_fg (f g : Fb) (w : World) (hf : f.In w) (hg : g.In w) (h20 : f.len ≤ 1000) :
    Calls Try.prog 27 #[.agg #[.string f.n, .slice f.a f.len f.cap], .agg #[.string g.n, .slice g.a g.len g.cap]] w fun e w' => e = .returned (.int .i64 (cmpF f.l g.l)) ∧ Grew w w' :=
  fcompare_g _ _ _ _ _ _ _ _ _ _ w hf.row hg.row (by rw [hf.len]; omega) (by rw [hf.len]; omega) (by rw [hg.len]; omega) (by rw [hg.len]; omega) h20
end Go.Proofs.Ytmnonjacomabbaa
