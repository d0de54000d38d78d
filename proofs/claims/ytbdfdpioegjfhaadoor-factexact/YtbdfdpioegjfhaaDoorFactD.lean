/- What slices.CompareFunc over facts and fact.Lists answer. -/
import Derived.Test.YtbdfdpioegjfhaaDoorFactC
namespace Go.Proofs.YtbdfdpioegjfhaaDoor
open Go.RowKit
open V

set_option maxHeartbeats 2000000 in
theorem lexF_any (a a' : Option Addr) (len len' cap cap' : Nat) (xs ys : List Fb) (w : World) (hr : RowF w a xs) (hr' : RowF w a' ys) (hl : len ≤ xs.length) (hl' : xs.length ≤ len) (hm : len' ≤ ys.length) (hm' : ys.length ≤ len') (h20 : len ≤ 1000) (hx20 : ∀ f ∈ xs, f.len ≤ 1000) :
    Calls Tryd.prog 37 #[.slice a len cap, .slice a' len' cap', .func (.func 12) #[] #[]] w fun e w' => e = .returned (.int .i64 (lexL cmpF (xs.map Fb.l) (ys.map Fb.l))) ∧ Below w.heap.size w w' := by
  go_enter Tryd.func37, Tryd.ntmps37
  go_wp2_with fail
  go_loopw [7, 8, 9, 10, 13] (fun _ _ _ _ i wr => ∃ k : Nat, k ≤ len ∧ k ≤ len' ∧ i = .int .i64 k ∧ Hid (lexL cmpF (xs.map Fb.l) (ys.map Fb.l) = lexL cmpF ((xs.drop k).map Fb.l) ((ys.drop k).map Fb.l)) ∧ Below w.heap.size w wr) (fun _ _ _ _ i _ => len - (intOf i).toNat)
  case atStart => exact ⟨0, Nat.zero_le _, Nat.zero_le _, rfl, hide (by simp), Below.refl _ _⟩
  case round =>
    obtain ⟨k, hk, hk', rfl, HK, hbw⟩ := hrel
    by_cases hlt : k < len
    · obtain ⟨b, o, ha, hbl, c0, c1, hin⟩ := (hr.on hbw).up (show k < xs.length by omega)
      subst ha
      have hfl := hx20 xs[k] (List.getElem_mem (by omega))
      by_cases hlt' : k < len'
      · obtain ⟨b', o', ha', hbl', c0', c1', hin'⟩ := (hr'.on hbw).up (show k < ys.length by omega)
        subst ha'
        have hby : Below wr.heap.size wr ((wr.alloc (.cells #[.string xs[k].n, .slice xs[k].a xs[k].len xs[k].cap] 24)).alloc (.cells #[.string ys[k].n, .slice ys[k].a ys[k].len ys[k].cap] 24)) := ((Below.refl _ _).alloc (Nat.le_refl _) _).alloc (by simp) _
        have hbx := bt hbw hby
        have HC := hide (lex_cons (f := cmpF) (g := Fb.l) (show k < xs.length by omega) (show k < ys.length by omega))
        go_wp2_with (go_at_call 12; refine (fcompare_fb _ _ _ (hin.on hby) (hin'.on hby) hfl).mono ?_; rintro e w2 ⟨rfl, hb2⟩; refine Hid.out ?_)
        refine Lib.hid ?_
        by_cases hz : cmpF xs[k].l ys[k].l = 0
        · have d0 : (cmpF xs[k].l ys[k].l != 0) = false := by simp [hz]
          have HN : Hid (lexL cmpF (xs.map Fb.l) (ys.map Fb.l) = lexL cmpF ((xs.drop (k + 1)).map Fb.l) ((ys.drop (k + 1)).map Fb.l)) := by
            show _ = _
            rw [unhide HK, unhide HC, hz]; simp
          clear hz
          go_wp2_with fail
          go_roundw
          case rel => exact ⟨k + 1, by omega, by omega, by go_num, HN, bt hbx hb2⟩
          case measure => simp [intOf]; omega
        · have d0 : (cmpF xs[k].l ys[k].l != 0) = true := by simp [hz]
          have HN : Hid (lexL cmpF (xs.map Fb.l) (ys.map Fb.l) = cmpF xs[k].l ys[k].l) := by
            show _ = _
            rw [unhide HK, unhide HC, if_pos hz]
          clear hz
          go_wp2_with fail
          go_ret
          exact ⟨ret_int (unhide HN).symm, bt hbx hb2⟩
      · have HN : Hid (lexL cmpF (xs.map Fb.l) (ys.map Fb.l) = 1) := by
          show _ = _
          rw [unhide HK, lex_right (by omega) (by omega)]
        have hbx : Below w.heap.size w (wr.alloc (.cells #[.string xs[k].n, .slice xs[k].a xs[k].len xs[k].cap] 24)) := hbw.alloc hbw.size _
        go_wp2_with fail
        go_ret
        exact ⟨ret_int (unhide HN).symm, hbx⟩
    · by_cases hlt' : k < len'
      · have HN : Hid (lexL cmpF (xs.map Fb.l) (ys.map Fb.l) = -1) := by
          show _ = _
          rw [unhide HK, lex_left (by omega) (by omega)]
        go_wp2_with fail
        go_ret
        exact ⟨ret_int (unhide HN).symm, hbw⟩
      · have HN : Hid (lexL cmpF (xs.map Fb.l) (ys.map Fb.l) = 0) := by
          show _ = _
          rw [unhide HK, lex_both (by omega) (by omega)]
        go_wp2_with fail
        go_ret
        exact ⟨ret_int (unhide HN).symm, hbw⟩

set_option maxHeartbeats 1000000 in
theorem lists_any (a a' : Option Addr) (len len' cap cap' : Nat) (xs ys : List Fb) (w : World) (hr : RowF w a xs) (hr' : RowF w a' ys) (hl : len = xs.length) (hm : len' = ys.length) (h20 : len ≤ 1000) (hx20 : ∀ f ∈ xs, f.len ≤ 1000) :
    Calls Tryd.prog 14 #[.slice a len cap, .slice a' len' cap'] w fun e w' => e = .returned (.int .i64 (lexL cmpF (xs.map Fb.l) (ys.map Fb.l))) ∧ Below w.heap.size w w' := by
  have l1 : len ≤ xs.length := by omega
  have l2 : xs.length ≤ len := by omega
  have l3 : len' ≤ ys.length := by omega
  have l4 : ys.length ≤ len' := by omega
  clear hl hm
  go_enter Tryd.func14, Tryd.ntmps14
  go_wp2_with fail
  refine (lexF_any a a' len len' cap cap' xs ys _ hr hr' l1 l2 l3 l4 h20 hx20).mono ?_
  rintro e w2 ⟨rfl, hb2⟩
  go_wp2_with fail
  go_ret
  exact ⟨rfl, hb2⟩
end Go.Proofs.YtbdfdpioegjfhaaDoor
