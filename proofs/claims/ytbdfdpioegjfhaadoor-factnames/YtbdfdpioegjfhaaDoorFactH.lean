/- The walk of constablelaw03.FactNames: it answers true, whatever the number. -/
import Derived.Test.YtbdfdpioegjfhaaDoorFactG
namespace Go.Proofs.YtbdfdpioegjfhaaDoor
open Go.RowKit
open V

def goods : List ByteArray := [⟨#[97]⟩, ⟨#[97, 66, 95, 57]⟩, ⟨#[102, 97, 99, 116, 115]⟩, ⟨#[100, 114, 111, 112, 115]⟩, ⟨#[110, 95, 111, 116]⟩, ⟨#[97, 98, 99, 100, 101, 102, 103, 104, 105, 106, 107, 108, 109, 110, 111, 112, 113, 114, 115, 116, 117, 118, 119, 120]⟩]
def bads : List ByteArray := [⟨#[]⟩, ⟨#[65]⟩, ⟨#[95, 97]⟩, ⟨#[57]⟩, ⟨#[97, 45, 98]⟩, ⟨#[102, 97, 99, 116]⟩, ⟨#[114, 117, 108, 101]⟩, ⟨#[112, 97, 116, 116, 101, 114, 110]⟩, ⟨#[110, 111, 116]⟩, ⟨#[97, 110, 100]⟩, ⟨#[111, 114]⟩, ⟨#[98, 101, 102, 111, 114, 101]⟩, ⟨#[111, 110, 99, 101]⟩, ⟨#[97, 108, 119, 97, 121, 115]⟩, ⟨#[115, 105, 110, 99, 101]⟩, ⟨#[100, 114, 111, 112]⟩, ⟨#[97, 98, 99, 100, 101, 102, 103, 104, 105, 106, 107, 108, 109, 110, 111, 112, 113, 114, 115, 116, 117, 118, 119, 120, 121]⟩]

theorem mod_of (how : Int) (q : Int) (q0 : 0 < q) (q1 : q ≤ 1000) : ∃ m : Nat, (m : Int) < q ∧ wrap64 ((IntKind.u64.wrap how).tmod q) = (m : Int) := by
  have h0 : 0 ≤ IntKind.u64.wrap how := by
    show 0 ≤ how % 18446744073709551616
    omega
  have h1 : (IntKind.u64.wrap how).tmod q = (IntKind.u64.wrap how) % q := Int.tmod_eq_emod_of_nonneg h0
  rw [h1]
  have h2 : 0 ≤ (IntKind.u64.wrap how) % q := Int.emod_nonneg _ (by omega)
  have h3 : (IntKind.u64.wrap how) % q < q := Int.emod_lt_of_pos _ q0
  generalize (IntKind.u64.wrap how) % q = x at h2 h3
  refine ⟨x.toNat, by omega, ?_⟩
  unfold wrap64; omega

theorem names_cells (w : World) (m j : Nat) (hm : m < 6) (hj : j < 17) : ∃ g b : ByteArray,
    ((w.alloc (.cells #[.string ⟨#[97]⟩, .string ⟨#[97, 66, 95, 57]⟩, .string ⟨#[102, 97, 99, 116, 115]⟩, .string ⟨#[100, 114, 111, 112, 115]⟩, .string ⟨#[110, 95, 111, 116]⟩, .string ⟨#[97, 98, 99, 100, 101, 102, 103, 104, 105, 106, 107, 108, 109, 110, 111, 112, 113, 114, 115, 116, 117, 118, 119, 120]⟩] 9)).alloc (.cells #[.string ⟨#[]⟩, .string ⟨#[65]⟩, .string ⟨#[95, 97]⟩, .string ⟨#[57]⟩, .string ⟨#[97, 45, 98]⟩, .string ⟨#[102, 97, 99, 116]⟩, .string ⟨#[114, 117, 108, 101]⟩, .string ⟨#[112, 97, 116, 116, 101, 114, 110]⟩, .string ⟨#[110, 111, 116]⟩, .string ⟨#[97, 110, 100]⟩, .string ⟨#[111, 114]⟩, .string ⟨#[98, 101, 102, 111, 114, 101]⟩, .string ⟨#[111, 110, 99, 101]⟩, .string ⟨#[97, 108, 119, 97, 121, 115]⟩, .string ⟨#[115, 105, 110, 99, 101]⟩, .string ⟨#[100, 114, 111, 112]⟩, .string ⟨#[97, 98, 99, 100, 101, 102, 103, 104, 105, 106, 107, 108, 109, 110, 111, 112, 113, 114, 115, 116, 117, 118, 119, 120, 121]⟩] 9)).cell? ⟨w.heap.size, m, none⟩ = some (.string g) ∧
    ((w.alloc (.cells #[.string ⟨#[97]⟩, .string ⟨#[97, 66, 95, 57]⟩, .string ⟨#[102, 97, 99, 116, 115]⟩, .string ⟨#[100, 114, 111, 112, 115]⟩, .string ⟨#[110, 95, 111, 116]⟩, .string ⟨#[97, 98, 99, 100, 101, 102, 103, 104, 105, 106, 107, 108, 109, 110, 111, 112, 113, 114, 115, 116, 117, 118, 119, 120]⟩] 9)).alloc (.cells #[.string ⟨#[]⟩, .string ⟨#[65]⟩, .string ⟨#[95, 97]⟩, .string ⟨#[57]⟩, .string ⟨#[97, 45, 98]⟩, .string ⟨#[102, 97, 99, 116]⟩, .string ⟨#[114, 117, 108, 101]⟩, .string ⟨#[112, 97, 116, 116, 101, 114, 110]⟩, .string ⟨#[110, 111, 116]⟩, .string ⟨#[97, 110, 100]⟩, .string ⟨#[111, 114]⟩, .string ⟨#[98, 101, 102, 111, 114, 101]⟩, .string ⟨#[111, 110, 99, 101]⟩, .string ⟨#[97, 108, 119, 97, 121, 115]⟩, .string ⟨#[115, 105, 110, 99, 101]⟩, .string ⟨#[100, 114, 111, 112]⟩, .string ⟨#[97, 98, 99, 100, 101, 102, 103, 104, 105, 106, 107, 108, 109, 110, 111, 112, 113, 114, 115, 116, 117, 118, 119, 120, 121]⟩] 9)).cell? ⟨w.heap.size + 1, j, none⟩ = some (.string b) ∧
    (nameB g.data.toList = true ∧ nameB b.data.toList = false) ∧ g.size ≤ 200 ∧ b.size ≤ 200 := by
  have hg : ((w.alloc (.cells #[.string ⟨#[97]⟩, .string ⟨#[97, 66, 95, 57]⟩, .string ⟨#[102, 97, 99, 116, 115]⟩, .string ⟨#[100, 114, 111, 112, 115]⟩, .string ⟨#[110, 95, 111, 116]⟩, .string ⟨#[97, 98, 99, 100, 101, 102, 103, 104, 105, 106, 107, 108, 109, 110, 111, 112, 113, 114, 115, 116, 117, 118, 119, 120]⟩] 9)).alloc (.cells #[.string ⟨#[]⟩, .string ⟨#[65]⟩, .string ⟨#[95, 97]⟩, .string ⟨#[57]⟩, .string ⟨#[97, 45, 98]⟩, .string ⟨#[102, 97, 99, 116]⟩, .string ⟨#[114, 117, 108, 101]⟩, .string ⟨#[112, 97, 116, 116, 101, 114, 110]⟩, .string ⟨#[110, 111, 116]⟩, .string ⟨#[97, 110, 100]⟩, .string ⟨#[111, 114]⟩, .string ⟨#[98, 101, 102, 111, 114, 101]⟩, .string ⟨#[111, 110, 99, 101]⟩, .string ⟨#[97, 108, 119, 97, 121, 115]⟩, .string ⟨#[115, 105, 110, 99, 101]⟩, .string ⟨#[100, 114, 111, 112]⟩, .string ⟨#[97, 98, 99, 100, 101, 102, 103, 104, 105, 106, 107, 108, 109, 110, 111, 112, 113, 114, 115, 116, 117, 118, 119, 120, 121]⟩] 9)).heap[w.heap.size]? = some (.cells #[.string ⟨#[97]⟩, .string ⟨#[97, 66, 95, 57]⟩, .string ⟨#[102, 97, 99, 116, 115]⟩, .string ⟨#[100, 114, 111, 112, 115]⟩, .string ⟨#[110, 95, 111, 116]⟩, .string ⟨#[97, 98, 99, 100, 101, 102, 103, 104, 105, 106, 107, 108, 109, 110, 111, 112, 113, 114, 115, 116, 117, 118, 119, 120]⟩] 9) := by
    rw [Lib.alloc_old _ _ _ (by simp)]; exact heap_alloc_new w _
  have hb : ((w.alloc (.cells #[.string ⟨#[97]⟩, .string ⟨#[97, 66, 95, 57]⟩, .string ⟨#[102, 97, 99, 116, 115]⟩, .string ⟨#[100, 114, 111, 112, 115]⟩, .string ⟨#[110, 95, 111, 116]⟩, .string ⟨#[97, 98, 99, 100, 101, 102, 103, 104, 105, 106, 107, 108, 109, 110, 111, 112, 113, 114, 115, 116, 117, 118, 119, 120]⟩] 9)).alloc (.cells #[.string ⟨#[]⟩, .string ⟨#[65]⟩, .string ⟨#[95, 97]⟩, .string ⟨#[57]⟩, .string ⟨#[97, 45, 98]⟩, .string ⟨#[102, 97, 99, 116]⟩, .string ⟨#[114, 117, 108, 101]⟩, .string ⟨#[112, 97, 116, 116, 101, 114, 110]⟩, .string ⟨#[110, 111, 116]⟩, .string ⟨#[97, 110, 100]⟩, .string ⟨#[111, 114]⟩, .string ⟨#[98, 101, 102, 111, 114, 101]⟩, .string ⟨#[111, 110, 99, 101]⟩, .string ⟨#[97, 108, 119, 97, 121, 115]⟩, .string ⟨#[115, 105, 110, 99, 101]⟩, .string ⟨#[100, 114, 111, 112]⟩, .string ⟨#[97, 98, 99, 100, 101, 102, 103, 104, 105, 106, 107, 108, 109, 110, 111, 112, 113, 114, 115, 116, 117, 118, 119, 120, 121]⟩] 9)).heap[w.heap.size + 1]? = some (.cells #[.string ⟨#[]⟩, .string ⟨#[65]⟩, .string ⟨#[95, 97]⟩, .string ⟨#[57]⟩, .string ⟨#[97, 45, 98]⟩, .string ⟨#[102, 97, 99, 116]⟩, .string ⟨#[114, 117, 108, 101]⟩, .string ⟨#[112, 97, 116, 116, 101, 114, 110]⟩, .string ⟨#[110, 111, 116]⟩, .string ⟨#[97, 110, 100]⟩, .string ⟨#[111, 114]⟩, .string ⟨#[98, 101, 102, 111, 114, 101]⟩, .string ⟨#[111, 110, 99, 101]⟩, .string ⟨#[97, 108, 119, 97, 121, 115]⟩, .string ⟨#[115, 105, 110, 99, 101]⟩, .string ⟨#[100, 114, 111, 112]⟩, .string ⟨#[97, 98, 99, 100, 101, 102, 103, 104, 105, 106, 107, 108, 109, 110, 111, 112, 113, 114, 115, 116, 117, 118, 119, 120, 121]⟩] 9) := by
    have := heap_alloc_new (w.alloc (.cells #[.string ⟨#[97]⟩, .string ⟨#[97, 66, 95, 57]⟩, .string ⟨#[102, 97, 99, 116, 115]⟩, .string ⟨#[100, 114, 111, 112, 115]⟩, .string ⟨#[110, 95, 111, 116]⟩, .string ⟨#[97, 98, 99, 100, 101, 102, 103, 104, 105, 106, 107, 108, 109, 110, 111, 112, 113, 114, 115, 116, 117, 118, 119, 120]⟩] 9)) (.cells #[.string ⟨#[]⟩, .string ⟨#[65]⟩, .string ⟨#[95, 97]⟩, .string ⟨#[57]⟩, .string ⟨#[97, 45, 98]⟩, .string ⟨#[102, 97, 99, 116]⟩, .string ⟨#[114, 117, 108, 101]⟩, .string ⟨#[112, 97, 116, 116, 101, 114, 110]⟩, .string ⟨#[110, 111, 116]⟩, .string ⟨#[97, 110, 100]⟩, .string ⟨#[111, 114]⟩, .string ⟨#[98, 101, 102, 111, 114, 101]⟩, .string ⟨#[111, 110, 99, 101]⟩, .string ⟨#[97, 108, 119, 97, 121, 115]⟩, .string ⟨#[115, 105, 110, 99, 101]⟩, .string ⟨#[100, 114, 111, 112]⟩, .string ⟨#[97, 98, 99, 100, 101, 102, 103, 104, 105, 106, 107, 108, 109, 110, 111, 112, 113, 114, 115, 116, 117, 118, 119, 120, 121]⟩] 9)
    simpa using this
  have good : ∀ g ∈ goods, nameB g.data.toList = true ∧ g.size ≤ 200 := by decide
  have bad : ∀ b ∈ bads, nameB b.data.toList = false ∧ b.size ≤ 200 := by decide
  have lg : m < goods.length := hm
  have lb : j < bads.length := hj
  have g1 := good goods[m] (List.getElem_mem lg)
  have b1 := bad bads[j] (List.getElem_mem lb)
  refine ⟨goods[m], bads[j], ?_, ?_, ⟨g1.1, b1.1⟩, g1.2, b1.2⟩
  · rw [Lib.cell_of_heap hg]
    have e : (#[.string ⟨#[97]⟩, .string ⟨#[97, 66, 95, 57]⟩, .string ⟨#[102, 97, 99, 116, 115]⟩, .string ⟨#[100, 114, 111, 112, 115]⟩, .string ⟨#[110, 95, 111, 116]⟩, .string ⟨#[97, 98, 99, 100, 101, 102, 103, 104, 105, 106, 107, 108, 109, 110, 111, 112, 113, 114, 115, 116, 117, 118, 119, 120]⟩] : Array Value) = (goods.map Value.string).toArray := rfl
    rw [e]
    simp [lg]
  · rw [Lib.cell_of_heap hb]
    have e : (#[.string ⟨#[]⟩, .string ⟨#[65]⟩, .string ⟨#[95, 97]⟩, .string ⟨#[57]⟩, .string ⟨#[97, 45, 98]⟩, .string ⟨#[102, 97, 99, 116]⟩, .string ⟨#[114, 117, 108, 101]⟩, .string ⟨#[112, 97, 116, 116, 101, 114, 110]⟩, .string ⟨#[110, 111, 116]⟩, .string ⟨#[97, 110, 100]⟩, .string ⟨#[111, 114]⟩, .string ⟨#[98, 101, 102, 111, 114, 101]⟩, .string ⟨#[111, 110, 99, 101]⟩, .string ⟨#[97, 108, 119, 97, 121, 115]⟩, .string ⟨#[115, 105, 110, 99, 101]⟩, .string ⟨#[100, 114, 111, 112]⟩, .string ⟨#[97, 98, 99, 100, 101, 102, 103, 104, 105, 106, 107, 108, 109, 110, 111, 112, 113, 114, 115, 116, 117, 118, 119, 120, 121]⟩] : Array Value) = (bads.map Value.string).toArray := rfl
    rw [e]
    simp [lb]

/-- The law's one value, where it lies. -/
structure OneV (w : World) (q : Nat) : Prop where
  lt : q < w.heap.size
  c0 : w.cell? ⟨q, 0, none⟩ = some (.int .i64 1)
  c1 : w.cell? ⟨q, 1, none⟩ = some (.int .i64 0)
  c2 : w.cell? ⟨q, 2, none⟩ = some (.string ⟨#[]⟩)
theorem OneV.on {w w' : World} {q : Nat} (h : OneV w q) (hb : Below w.heap.size w w') : OneV w' q :=
  ⟨Nat.lt_of_lt_of_le h.lt hb.size, (hb.cell (p := ⟨q, _, none⟩) h.lt).trans h.c0, (hb.cell (p := ⟨q, _, none⟩) h.lt).trans h.c1, (hb.cell (p := ⟨q, _, none⟩) h.lt).trans h.c2⟩

def vN : Vb := ⟨1, 0, ⟨#[]⟩⟩
theorem vN_right : rightV vN.l = true := by decide
theorem five_ok {g : List UInt8} (h : nameB g = true) : rightF (g, [vN, vN, vN, vN, vN].map Vb.l) = true := by simp [rightF, h, vN_right]
theorem six_no {g : List UInt8} : rightF (g, [vN, vN, vN, vN, vN, vN].map Vb.l) = false := by simp [rightF]
theorem bad_no {g : List UInt8} (h : nameB g = false) : rightF (g, ([] : List Vb).map Vb.l) = false := by simp [rightF, h]

set_option maxHeartbeats 2000000 in
theorem names_any (how : Int) (w : World) (he : Env w) :
    Calls Tryd.prog 5 #[.int .i64 how] w fun e w' => e = .returned (.bool true) ∧ Below w.heap.size w w' := by
  obtain ⟨m, hm, em⟩ := mod_of how 6 (by decide) (by decide)
  obtain ⟨j, hj, ej⟩ := mod_of how 17 (by decide) (by decide)
  have hm' : m < 6 := by omega
  have hj' : j < 17 := by omega
  obtain ⟨g, b, hcg, hcb, hgb, hgs, hbs⟩ := names_cells w m j hm' hj'
  have HGB := hide hgb
  clear hgb
  have hw0 : Below w.heap.size w ((w.alloc (.cells #[.string ⟨#[97]⟩, .string ⟨#[97, 66, 95, 57]⟩, .string ⟨#[102, 97, 99, 116, 115]⟩, .string ⟨#[100, 114, 111, 112, 115]⟩, .string ⟨#[110, 95, 111, 116]⟩, .string ⟨#[97, 98, 99, 100, 101, 102, 103, 104, 105, 106, 107, 108, 109, 110, 111, 112, 113, 114, 115, 116, 117, 118, 119, 120]⟩] 9)).alloc (.cells #[.string ⟨#[]⟩, .string ⟨#[65]⟩, .string ⟨#[95, 97]⟩, .string ⟨#[57]⟩, .string ⟨#[97, 45, 98]⟩, .string ⟨#[102, 97, 99, 116]⟩, .string ⟨#[114, 117, 108, 101]⟩, .string ⟨#[112, 97, 116, 116, 101, 114, 110]⟩, .string ⟨#[110, 111, 116]⟩, .string ⟨#[97, 110, 100]⟩, .string ⟨#[111, 114]⟩, .string ⟨#[98, 101, 102, 111, 114, 101]⟩, .string ⟨#[111, 110, 99, 101]⟩, .string ⟨#[97, 108, 119, 97, 121, 115]⟩, .string ⟨#[115, 105, 110, 99, 101]⟩, .string ⟨#[100, 114, 111, 112]⟩, .string ⟨#[97, 98, 99, 100, 101, 102, 103, 104, 105, 106, 107, 108, 109, 110, 111, 112, 113, 114, 115, 116, 117, 118, 119, 120, 121]⟩] 9)) := ((Below.refl _ _).alloc (Nat.le_refl _) _).alloc (by simp) _
  go_enter Tryd.func5, Tryd.ntmps5
  go_wp2_with fail
  generalize (w.alloc (.cells #[.string ⟨#[97]⟩, .string ⟨#[97, 66, 95, 57]⟩, .string ⟨#[102, 97, 99, 116, 115]⟩, .string ⟨#[100, 114, 111, 112, 115]⟩, .string ⟨#[110, 95, 111, 116]⟩, .string ⟨#[97, 98, 99, 100, 101, 102, 103, 104, 105, 106, 107, 108, 109, 110, 111, 112, 113, 114, 115, 116, 117, 118, 119, 120]⟩] 9)).alloc (.cells #[.string ⟨#[]⟩, .string ⟨#[65]⟩, .string ⟨#[95, 97]⟩, .string ⟨#[57]⟩, .string ⟨#[97, 45, 98]⟩, .string ⟨#[102, 97, 99, 116]⟩, .string ⟨#[114, 117, 108, 101]⟩, .string ⟨#[112, 97, 116, 116, 101, 114, 110]⟩, .string ⟨#[110, 111, 116]⟩, .string ⟨#[97, 110, 100]⟩, .string ⟨#[111, 114]⟩, .string ⟨#[98, 101, 102, 111, 114, 101]⟩, .string ⟨#[111, 110, 99, 101]⟩, .string ⟨#[97, 108, 119, 97, 121, 115]⟩, .string ⟨#[115, 105, 110, 99, 101]⟩, .string ⟨#[100, 114, 111, 112]⟩, .string ⟨#[97, 98, 99, 100, 101, 102, 103, 104, 105, 106, 107, 108, 109, 110, 111, 112, 113, 114, 115, 116, 117, 118, 119, 120, 121]⟩] 9) = W at *
  go_region
  clear em ej hm hj hcg hcb
  have hD : Below w.heap.size w (W.alloc (.cells #[.int .i64 1, .int .i64 0, .string ⟨#[]⟩] 44)).drew := (hw0.alloc hw0.size _).drew
  have hk : (W.alloc (.cells #[.int .i64 1, .int .i64 0, .string ⟨#[]⟩] 44)).drew.heap[W.heap.size]? = some (.cells #[.int .i64 1, .int .i64 0, .string ⟨#[]⟩] 44) := heap_alloc_new W _
  have hsz : W.heap.size < (W.alloc (.cells #[.int .i64 1, .int .i64 0, .string ⟨#[]⟩] 44)).drew.heap.size := by simp
  go_wp2_with fail
  generalize (W.alloc (.cells #[.int .i64 1, .int .i64 0, .string ⟨#[]⟩] 44)).drew = X at *
  have hX : OneV X W.heap.size := ⟨hsz, by rw [Lib.cell_of_heap hk]; rfl, by rw [Lib.cell_of_heap hk]; rfl, by rw [Lib.cell_of_heap hk]; rfl⟩
  clear hk hsz
  generalize W.heap.size = q at *
  refine (name_any _ _ (by unfold maxLen; omega)).mono ?_
  rintro e w1 ⟨rfl, hb1⟩
  rw [(unhide HGB).1]
  have hw1 := bt hD hb1
  have h1 := hX.on hb1
  clear hX hD hb1 hw0
  go_wp2_with fail
  refine (name_any _ _ (by unfold maxLen; omega)).mono ?_
  rintro e w2 ⟨rfl, hb2⟩
  rw [(unhide HGB).2]
  have hw2 := bt hw1 hb2
  obtain ⟨hl2, c20, c21, c22⟩ := h1.on hb2
  clear h1 hb2 hw1
  have hb3 : Below w2.heap.size w2 (w2.alloc (.cells #[.int .i64 1, .int .i64 0, .string ⟨#[]⟩, .int .i64 1, .int .i64 0, .string ⟨#[]⟩, .int .i64 1, .int .i64 0, .string ⟨#[]⟩, .int .i64 1, .int .i64 0, .string ⟨#[]⟩, .int .i64 1, .int .i64 0, .string ⟨#[]⟩] 44)) := (Below.refl _ _).alloc (Nat.le_refl _) _
  have hr3 : RowV (w2.alloc (.cells #[.int .i64 1, .int .i64 0, .string ⟨#[]⟩, .int .i64 1, .int .i64 0, .string ⟨#[]⟩, .int .i64 1, .int .i64 0, .string ⟨#[]⟩, .int .i64 1, .int .i64 0, .string ⟨#[]⟩, .int .i64 1, .int .i64 0, .string ⟨#[]⟩] 44)) (some ⟨w2.heap.size, 0, none⟩) [vN, vN, vN, vN, vN] := rowV_of (heap_alloc_new w2 _)
  have t3 := fcheck_any g (some ⟨w2.heap.size, 0, none⟩) 5 5 [vN, vN, vN, vN, vN] _ hgs (by intro v hv; simp at hv; subst hv; decide) hr3 (by simp) (by simp) (by decide)
  rw [chk_t (five_ok (unhide HGB).1)] at t3
  clear hr3
  go_wp2_with fail
  refine t3.mono ?_
  rintro e w4 ⟨rfl, hb4⟩
  have h2 : OneV w2 q := ⟨hl2, c20, c21, c22⟩
  have hw4 := bt (bt hw2 hb3) hb4
  obtain ⟨hl4, c40, c41, c42⟩ := h2.on (bt hb3 hb4)
  clear h2 hb3 hb4 hw2 c20 c21 c22 hl2 t3
  have hb5 : Below w4.heap.size w4 (w4.alloc (.cells #[.int .i64 1, .int .i64 0, .string ⟨#[]⟩, .int .i64 1, .int .i64 0, .string ⟨#[]⟩, .int .i64 1, .int .i64 0, .string ⟨#[]⟩, .int .i64 1, .int .i64 0, .string ⟨#[]⟩, .int .i64 1, .int .i64 0, .string ⟨#[]⟩, .int .i64 1, .int .i64 0, .string ⟨#[]⟩] 44)) := (Below.refl _ _).alloc (Nat.le_refl _) _
  have hr5 : RowV (w4.alloc (.cells #[.int .i64 1, .int .i64 0, .string ⟨#[]⟩, .int .i64 1, .int .i64 0, .string ⟨#[]⟩, .int .i64 1, .int .i64 0, .string ⟨#[]⟩, .int .i64 1, .int .i64 0, .string ⟨#[]⟩, .int .i64 1, .int .i64 0, .string ⟨#[]⟩, .int .i64 1, .int .i64 0, .string ⟨#[]⟩] 44)) (some ⟨w4.heap.size, 0, none⟩) [vN, vN, vN, vN, vN, vN] := rowV_of (heap_alloc_new w4 _)
  have t5 := fcheck_any g (some ⟨w4.heap.size, 0, none⟩) 6 6 [vN, vN, vN, vN, vN, vN] _ hgs (by intro v hv; simp at hv; subst hv; decide) hr5 (by simp) (by simp) (by decide)
  rw [chk_f six_no] at t5
  clear hr5
  go_wp2_with fail
  refine t5.mono ?_
  rintro e w6 ⟨rfl, hb6⟩
  have hw6 := bt (bt hw4 hb5) hb6
  clear t5 hb5 hb6 hw4
  have t7 := fcheck_any b none 0 0 [] w6 hbs (by simp) (Or.inl rfl) (by simp) (by simp) (by omega)
  rw [chk_f (bad_no (unhide HGB).2)] at t7
  go_wp2_with fail
  refine t7.mono ?_
  rintro e w7 ⟨rfl, hb7⟩
  have hw7 := bt hw6 hb7
  clear t7 hb7 hw6
  go_wp2_with fail
  refine (wakes_any _ (he.on hw7)).mono ?_
  rintro e w8 ⟨rfl, hb8⟩
  go_wp2_with fail
  go_ret
  exact ⟨rfl, bt hw7 hb8⟩
end Go.Proofs.YtbdfdpioegjfhaaDoor
