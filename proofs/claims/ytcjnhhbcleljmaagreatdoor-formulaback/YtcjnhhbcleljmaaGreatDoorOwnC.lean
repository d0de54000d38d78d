/- What the library's strings.Builder does at this program: WriteByte, and val.quote over it. -/
import Derived.Test.YtcjnhhbcleljmaaGreatDoorOwnB
import Derived.Test.YtcjnhhbcleljmaaGreatDoorShelf
namespace Go.Proofs.YtcjnhhbcleljmaaGreatDoor
open Go.RowKit
open V

theorem sizeBuilder : (Tryz.prog.info? 197).map (·.size) = some 2 := by kernel_rfl
theorem liesBuilder : liesAt Tryz.prog Tryz.prog.depth 197 (2 / Tryz.prog.cellsOf 197) 0 197 1 = true := by kernel_rfl
theorem infoByte : (Tryz.prog.info? 5).map (fun i => (i.zero, i.size, i.bytes)) = some (some (.int .u8 0), 1, 1) := by kernel_rfl

set_option maxHeartbeats 1000000 in
set_option maxRecDepth 100000 in
theorem copyCheck_used (b : Nat) (w : World) (h0 : w.cell? ⟨b, 0, none⟩ = some (.pointer (some ⟨b, 0, none⟩))) :
    Calls Tryz.prog 189 #[.pointer (some ⟨b, 0, none⟩)] w fun e w' => e = .returned (.tuple #[]) ∧ w' = w := by
  obtain ⟨j, hj, _⟩ := Option.map_eq_some_iff.1 sizeBuilder
  go_enter Tryz.func189, Tryz.ntmps189
  go_wp2
  rw [Lib.run_neq_ptr_same w _ Tryz.underlying195 hj]
  go_wp2
  go_end0
  exact ⟨rfl, rfl⟩

set_option maxHeartbeats 1000000 in
set_option maxRecDepth 100000 in
theorem copyCheck_fresh (b : Nat) (w : World) (h0 : w.cell? ⟨b, 0, none⟩ = some (.pointer none)) (hsh : w.shape? b = some (197, 2)) (hfz : w.frozen? ⟨b, 0, none⟩ = false) :
    Calls Tryz.prog 189 #[.pointer (some ⟨b, 0, none⟩)] w fun e w' => e = .returned (.tuple #[]) ∧ w' = w.setCell ⟨b, 0, none⟩ (.pointer (some ⟨b, 0, none⟩)) := by
  obtain ⟨j, hj, hjs⟩ := Option.map_eq_some_iff.1 sizeBuilder
  go_enter Tryz.func189, Tryz.ntmps189
  go_wp2
  rw [Lib.run_to_unsafe w ⟨b, 0, none⟩ Tryz.underlying195 Tryz.underlying251 hj (by rw [hjs]; decide) hsh (Nat.zero_lt_succ 1)]
  simp only [Result.andThen]
  rw [Oper.upon_value]
  go_wp2
  rw [run_callFunc_extern Tryz.func217 (by kernel_rfl) (by kernel_rfl) (by kernel_rfl) (e := Extern.AbiNoEscape.same) (by kernel_rfl)]
  rw [Lib.run_noEscape]
  simp only [Result.andThen]
  rw [Oper.upon_value]
  go_wp2
  rw [Lib.run_from_unsafe w ⟨b, 0, none⟩ Tryz.underlying251 Tryz.underlying195 hj hsh liesBuilder]
  simp only [Result.andThen]
  rw [Oper.upon_value]
  go_wp2
  go_end0
  exact ⟨rfl, rfl⟩

theorem copyCheck_any (B b : Nat) (bs : List Value) (w : World) (h : Lib.IsBuilder 197 5 B b bs w) :
    Calls Tryz.prog 189 #[.pointer (some ⟨b, 0, none⟩)] w fun e w' => e = .returned (.tuple #[]) ∧ (Lib.BuilderAt 197 5 B b (.pointer (some ⟨b, 0, none⟩)) bs w' ∧ Below B w w') := by
  rcases h with h | h
  · refine (copyCheck_fresh b w h.cell0 h.shape h.frozen0).mono ?_
    rintro e w' ⟨rfl, rfl⟩
    exact ⟨rfl, h.used _, (Below.refl B w).setCell (p := ⟨b, 0, none⟩) h.1 _⟩
  · refine (copyCheck_used b w h.cell0).mono ?_
    rintro e w' ⟨rfl, rfl⟩
    exact ⟨rfl, h, Below.refl B _⟩

set_option maxHeartbeats 2000000 in
set_option maxRecDepth 100000 in
theorem writeByte_any (B b : Nat) (bs : List Value) (c : Int) (w : World) (h : Lib.IsBuilder 197 5 B b bs w) (hlen : bs.length + 1 ≤ 140737488355328) (hBw : B ≤ w.heap.size) :
    Calls Tryz.prog 154 #[.pointer (some ⟨b, 0, none⟩), .int .u8 c] w fun e w' => e = .returned .nilIface ∧ (Lib.BuilderAt 197 5 B b (.pointer (some ⟨b, 0, none⟩)) (bs ++ [.int .u8 c]) w' ∧ Below B w w') := by
  obtain ⟨i0, hi, hz0, hz1, hz2⟩ := info_parts infoByte
  go_enter Tryz.func154, Tryz.ntmps154
  go_wp2_with (go_at_call 189; refine (copyCheck_any B b bs _ h).mono ?_)
  rintro e w1 ⟨rfl, h1, hb1⟩
  obtain ⟨hB, v, hbk, hown, hne⟩ := h1
  have c0 : w1.cell? ⟨b, 0, none⟩ = some (.pointer (some ⟨b, 0, none⟩)) := by rw [Lib.cell_of_heap hbk]; rfl
  have c1 : w1.cell? ⟨b, 1, none⟩ = some v := by rw [Lib.cell_of_heap hbk]; rfl
  go_wp2_with (at_builtin; refine wpList_append_own _ rfl _ _ 174 rfl B 5 i0 (.int .u8 0) 1 1 Tryz.underlying174 hi hz0 hz1 hz2 rfl (by decide) _ _ _ rfl (hown.alloc _) ⟨w1.heap.size, 0, none⟩ 1 1 [.int .u8 c] rfl rfl ?c1 ?c2 ?c3 ?c4 ?c5 ?_)
  case c1 =>
    intro j u hj
    match j, hj with
    | 0, hj => simp at hj; subst hj; simp [Addr.add]
  case c2 => intro u hu; simp at hu; subst hu; rfl
  case c3 => unfold maxLen; omega
  case c4 => omega
  case c5 => have := hb1.size; simp; omega
  intro v' w2 hown' hgrow _
  have hlt : b < w1.heap.size := by
    rcases Nat.lt_or_ge b w1.heap.size with h' | h'
    · exact h'
    · simp [Array.getElem?_eq_none h'] at hbk
  have hb2 : w2.heap[b]? = some (.cells #[.pointer (some ⟨b, 0, none⟩), v] 197 (0, 0)) := by
    rw [hgrow.block b (by simp; omega) (fun e => hne e.symm), Lib.alloc_old w1 _ b hlt]
    exact hbk
  have d0 : w2.cell? ⟨b, 0, none⟩ = some (.pointer (some ⟨b, 0, none⟩)) := by rw [Lib.cell_of_heap hb2]; rfl
  have d1 : w2.cell? ⟨b, 1, none⟩ = some v := by rw [Lib.cell_of_heap hb2]; rfl
  have f1 : w2.frozen? ⟨b, 1, none⟩ = false := Lib.frozen_of_heap hb2 1
  obtain ⟨g, cap, rfl⟩ : ∃ g cap, v' = .slice (some ⟨g, 0, none⟩) (bs.length + 1) cap := by
    rcases hown'.2 with ⟨_, h0⟩ | ⟨g, cap, cur, hv, _⟩
    · omega
    · exact ⟨g, cap, hv⟩
  go_wp2
  go_ret
  refine ⟨rfl, ?_, ?_⟩
  · exact Lib.BuilderAt.put (T := 197) (e := 5) hB hb2 (bs' := bs ++ [.int .u8 c]) (by simpa using hown') (by decide)
  · exact ((hb1.alloc (by have := hb1.size; omega) _).grown hgrow (by have := hb1.size; simp; omega) (fun k hk => (hown.lt k hk).1)).setCell (p := ⟨b, 1, none⟩) hB _

/-- WriteByte over bytes: the builder holds one byte more. -/
theorem writeByte_at (B b : Nat) (l : List UInt8) (c : UInt8) (n : Int) (hn : n = c.toNat) (w : World) (h : Lib.IsBuilder 197 5 B b (Lib.byteCells l) w) (hlen : l.length + 1 ≤ 140737488355328) (hBw : B ≤ w.heap.size) :
    Calls Tryz.prog 154 #[.pointer (some ⟨b, 0, none⟩), .int .u8 n] w fun e w' => e = .returned .nilIface ∧ Lib.IsBuilder 197 5 B b (Lib.byteCells (l ++ [c])) w' ∧ Below B w w' ∧ B ≤ w'.heap.size := by
  subst hn
  refine (writeByte_any B b (Lib.byteCells l) c.toNat w h (by simpa [Lib.byteCells] using hlen) hBw).mono ?_
  rintro e w' ⟨rfl, h1, hb⟩
  refine ⟨rfl, Or.inr ?_, hb, by have := hb.size; omega⟩
  have e1 : Lib.byteCells (l ++ [c]) = Lib.byteCells l ++ [.int .u8 c.toNat] := by simp [Lib.byteCells]
  rw [e1]; exact h1

set_option maxHeartbeats 1000000 in
theorem quote_any (s : ByteArray) (w : World) (hs : s.size ≤ 20000) :
    Calls Tryz.prog 219 #[.string s] w fun e w' => e = .returned (.string ⟨(quoteL s.data.toList).toArray⟩) ∧ Below w.heap.size w w' := by
  have hlen : s.data.toList.length = s.size := by simp
  have HL := hide hlen
  clear hlen
  go_enter Tryz.func219, Tryz.ntmps219
  go_wp2_with (go_at_call 154; refine (writeByte_at w.heap.size w.heap.size [] 34 _ rfl _ (Lib.fresh_isBuilder 197 5 w) (by simp) (by simp)).mono ?_; rintro e w1 ⟨rfl, h1, hb1, hB1⟩)
  have hw1 : Below w.heap.size w w1 := ((Below.refl _ _).alloc (Nat.le_refl _) _).trans hb1
  clear hb1
  go_loopw [4, 8] (fun _ i wr => ∃ k : Nat, k ≤ s.size ∧ i = .int .i64 k ∧ Lib.IsBuilder 197 5 w.heap.size w.heap.size (Lib.byteCells (34 :: escL (s.data.toList.take k))) wr ∧ Below w.heap.size w wr ∧ w.heap.size ≤ wr.heap.size) (fun _ i _ => s.size - (intOf i).toNat)
  case atStart => exact ⟨0, Nat.zero_le _, rfl, h1, hw1, hB1⟩
  case round =>
    obtain ⟨k, hk, rfl, hI, hbw, hBw⟩ := hrel
    have hle := escL_length (s.data.toList.take k)
    have hle2 : (s.data.toList.take k).length ≤ 20000 := by have := List.length_take_le' k s.data.toList; have := unhide HL; omega
    by_cases hlt : k < s.size
    · cases hc : escB s[k].toNat
      · have HE : Hid (34 :: escL (s.data.toList.take k) ++ [s[k]] = 34 :: escL (s.data.toList.take (k + 1))) := by
          show _ = _
          rw [take_snoc s k hlt, escL_append, escL_one_f hc]; rfl
        go_wp2_with (first | (go_at_call 229; refine (needsEscape_byte _ _).mono ?_; rintro e w2 ⟨rfl, rfl⟩) | (go_at_call 154; refine (writeByte_at w.heap.size w.heap.size _ s[k] _ rfl _ hI (by simp; omega) hBw).mono ?_; rintro e w2 ⟨rfl, h2, hb2, hB2⟩))
        go_roundw
        case rel => exact ⟨k + 1, by omega, by go_num, by rw [← unhide HE]; exact h2, hbw.trans hb2, hB2⟩
        case measure => simp [intOf]; omega
      · have HE : Hid (34 :: escL (s.data.toList.take k) ++ [92] ++ [s[k]] = 34 :: escL (s.data.toList.take (k + 1))) := by
          show _ = _
          rw [take_snoc s k hlt, escL_append, escL_one_t hc]; simp
        go_wp2_with (first | (go_at_call 229; refine (needsEscape_byte _ _).mono ?_; rintro e w2 ⟨rfl, rfl⟩) | (go_at_call 154; refine (writeByte_at w.heap.size w.heap.size _ 92 _ rfl _ hI (by simp; omega) hBw).mono ?_; rintro e w2 ⟨rfl, h2, hb2, hB2⟩; refine Hid.out ?_))
        refine Lib.hid ?_
        go_wp2_with (go_at_call 154; refine (writeByte_at w.heap.size w.heap.size _ s[k] _ rfl _ h2 (by simp; omega) hB2).mono ?_; rintro e w3 ⟨rfl, h3, hb3, hB3⟩)
        go_roundw
        case rel => exact ⟨k + 1, by omega, by go_num, by rw [← unhide HE]; exact h3, (hbw.trans hb2).trans hb3, hB3⟩
        case measure => simp [intOf]; omega
    · have HE : Hid (34 :: escL (s.data.toList.take k) ++ [34] = quoteL s.data.toList) := by
        show _ = _
        rw [take_all s k (by omega)]; rfl
      go_wp2_with (go_at_call 154; refine (writeByte_at w.heap.size w.heap.size _ 34 _ rfl _ hI (by simp; omega) hBw).mono ?_; rintro e w2 ⟨rfl, h2, hb2, hB2⟩; refine Hid.out ?_)
      refine Lib.hid ?_
      go_wp2_with (go_at_call 152; refine (Tryz.Builder_String_any w.heap.size w.heap.size _ _ h2 hB2).mono ?_; rintro e w3 ⟨rfl, hb3⟩)
      go_ret
      exact ⟨ret_str (by rw [← unhide HE]; rfl), (hbw.trans hb2).trans hb3⟩
end Go.Proofs.YtcjnhhbcleljmaaGreatDoor
