/- The statements' own look at the program: awake. -/
import Derived.Test.YthjnoboceibjjaaGreatDoorWalkR
namespace Go.Proofs.YthjnoboceibjjaaGreatDoor.Lx
open Go Go.Proofs Go.RowKit Go.Shelf

theorem tk_at : ∀ (l : List Tk) (i : Nat) (t : Tk), l[i]? = some t → ∀ j u, ([.int .u8 (t.kind : Int), .string t.text, .int .i64 (t.pos : Int)] : List Value)[j]? = some u → (tkCells l)[i * 3 + j]? = some u := by
  intro l
  induction l with
  | nil => intro i t h; simp at h
  | cons x r ih =>
    intro i t h j u hu
    cases i with
    | zero =>
      simp at h; subst h
      have hj : j < ([.int .u8 (x.kind : Int), .string x.text, .int .i64 (x.pos : Int)] : List Value).length := (List.getElem?_eq_some_iff.1 hu).1
      show ([.int .u8 (x.kind : Int), .string x.text, .int .i64 (x.pos : Int)] ++ tkCells r)[0 * 3 + j]? = some u
      rw [Nat.zero_mul, Nat.zero_add, List.getElem?_append_left hj]; exact hu
    | succ i =>
      show ([.int .u8 (x.kind : Int), .string x.text, .int .i64 (x.pos : Int)] ++ tkCells r)[(i + 1) * 3 + j]? = some u
      rw [List.getElem?_append_right (by simp; omega), show (i + 1) * 3 + j - ([.int .u8 (x.kind : Int), .string x.text, .int .i64 (x.pos : Int)] : List Value).length = i * 3 + j by simp; omega]
      exact ih i t (by simpa using h) j u hu
theorem sameTokens_self (a b : Value) (l : List Tk) (w : World) (ha : SlTk w a l) (hb : SlTk w b l) (hl : l.length ≤ 100000) :
    Calls Tryz.prog 15 #[a, b] w fun e w' => e = .returned (.bool true) ∧ Below w.heap.size w w' := by
  haveI : Decidable (l = l) := .isTrue rfl
  refine (sameTokens_any a b l l w ha hb hl hl).mono ?_
  rintro e w' ⟨rfl, h⟩
  exact ⟨ret_bool (decide_eq_true rfl), h⟩
theorem SlTk.lit (W : World) (l : List Tk) (cap : Nat) : SlTk (W.alloc (.cells (tkCells l).toArray 33)) (.slice (some ⟨W.heap.size, 0, none⟩) l.length cap) l := by
  refine ⟨_, cap, rfl, fun h0 => ⟨W.heap.size, 0, rfl, by simp, fun i t ht => ?_⟩⟩
  rw [Nat.zero_add]
  refine ⟨(cell_new W _ _ _).trans ?_, (cell_new W _ _ _).trans ?_, (cell_new W _ _ _).trans ?_⟩
  · simpa using tk_at l i t ht 0 _ rfl
  · simpa using tk_at l i t ht 1 _ rfl
  · simpa using tk_at l i t ht 2 _ rfl
theorem SlSp.lit (W : World) (l : List Sp) (cap : Nat) : SlSp (W.alloc (.cells (spCells l).toArray 40)) (.slice (some ⟨W.heap.size, 0, none⟩) l.length cap) l := by
  refine ⟨_, cap, rfl, fun h0 => ⟨W.heap.size, 0, rfl, by simp, fun i t ht => ?_⟩⟩
  rw [Nat.zero_add]
  refine ⟨(cell_new W _ _ _).trans ?_, (cell_new W _ _ _).trans ?_, (cell_new W _ _ _).trans ?_⟩
  · simpa using sp_at l i t ht 0 _ rfl
  · simpa using sp_at l i t ht 1 _ rfl
  · simpa using sp_at l i t ht 2 _ rfl

def tAw : List Tk := [⟨1, ⟨#[120]⟩, 0⟩, ⟨4, ⟨#[58, 61]⟩, 1⟩, ⟨2, ⟨#[49]⟩, 3⟩]
def tNo : List Tk := [⟨5, ⟨#[97]⟩, 2⟩]
def lAw : List Sp := [⟨1, 2, ⟨#[120, 121]⟩⟩]
theorem aw_tokens : tokens ⟨#[120, 58, 61, 49, 32, 126, 97]⟩ = (tAw, 0, 0) := by rfl
theorem aw_notes : notes ⟨#[120, 32, 126, 97]⟩ = (tNo, 0) := by rfl
theorem aw_err : splErr ⟨#[97, 98, 99]⟩ lAw = 0 := by rfl
theorem aw_text : applied ⟨#[97, 98, 99]⟩ lAw = ⟨#[97, 120, 121, 99]⟩ := by rfl
theorem aw_small : ∀ x ∈ lAw, x.text.size ≤ 100000 := by intro x hx; simp [lAw] at hx; subst hx; decide

set_option maxRecDepth 100000 in
set_option maxHeartbeats 4000000 in
theorem awake_any (w : World) (hG : Gl w) :
    Calls Tryz.prog 5 #[] w fun e w' => e = .returned (.bool true) ∧ Below w.heap.size w w' := by
  have htk := fun W hG' => tokens_any ⟨#[120, 58, 61, 49, 32, 126, 97]⟩ W (by decide) hG'
  rw [aw_tokens] at htk
  have hno := fun W hG' => notes_any ⟨#[120, 32, 126, 97]⟩ W (by decide) hG'
  rw [aw_notes] at hno
  have hap := fun W a ha => apply_any ⟨#[97, 98, 99]⟩ a lAw W (by decide) ha (by decide) aw_small
  rw [aw_err, aw_text] at hap
  have hre := rename_xs
  simp only [bXs, bX, bY, bYs] at hre
  have Htk := Lib.hid htk
  have Hno := Lib.hid hno
  have Hap := Lib.hid hap
  have Hre := Lib.hid hre
  clear htk hno hap hre
  go_enter Tryz.func5, Tryz.ntmps5
  go_wp2_with (first
    | (go_at_call 15; refine (sameTokens_self _ _ tNo _ ((((((hsl2.below hb3).below hb4).below hq5).below hb5).below hq6)) (SlTk.lit w5 tNo 1) (by decide)).mono ?_; rintro e w6 ⟨rfl, hb6⟩)
    | (go_at_call 15; refine (sameTokens_self _ _ tAw _ (((((hsl1.below hb2).below hb3).below hb4).below hq5)) (SlTk.lit w4 tAw 3) (by decide)).mono ?_; rintro e w5 ⟨rfl, hb5⟩; have hq6 := (Below.refl w5.heap.size w5).alloc (Nat.le_refl _) (.cells (tkCells tNo).toArray 33))
    | (go_at_call 14; refine (Hre.out _ (((hG.next hb1).next hb2).next hb3)).mono ?_; rintro e w4 ⟨rfl, hb4⟩; have hq5 := (Below.refl w4.heap.size w4).alloc (Nat.le_refl _) (.cells (tkCells tAw).toArray 33))
    | (go_at_call 13; refine (Hap.out _ _ (SlSp.lit w2 lAw 1)).mono ?_; rintro e w3 ⟨rfl, hb3'⟩; have hb3 := ((Below.refl w2.heap.size w2).alloc (Nat.le_refl _) _).trans (hb3'.mono (by rw [alloc_sz]; omega)))
    | (go_at_call 12; refine (Hno.out _ (hG.next hb1)).mono ?_; rintro e w2 ⟨v2, rfl, hown2, hb2⟩; obtain ⟨A2, c2, rfl⟩ := own_form hown2; have hsl2 := SlTk.of_own hown2)
    | (go_at_call 11; refine (Htk.out _ hG).mono ?_; rintro e w1 ⟨v, rfl, hown1, hb1⟩; obtain ⟨A1, c1, rfl⟩ := own_form hown1; have hsl1 := SlTk.of_own hown1))
  go_ret
  have z1 := hb1.size
  have z2 := hb2.size
  have z3 := hb3.size
  have z4 := hb4.size
  have z5 := hq5.size
  have z6 := hb5.size
  have z7 := hq6.size
  exact ⟨rfl, (((((((hb1.trans (hb2.mono z1)).trans (hb3.mono (by omega))).trans (hb4.mono (by omega))).trans (hq5.mono (by omega))).trans (hb5.mono (by omega))).trans (hq6.mono (by omega))).trans (hb6.mono (by omega)))⟩

end Go.Proofs.YthjnoboceibjjaaGreatDoor.Lx
