/- The name that the statements' own look renames. -/
import Derived.Test.YthjnoboceibjjaaGreatDoorWalkQ
namespace Go.Proofs.YthjnoboceibjjaaGreatDoor.Lx
open Go Go.Proofs Go.RowKit Go.Shelf

def bX : ByteArray := ⟨#[120]⟩
def bY : ByteArray := ⟨#[121]⟩
def bXs : ByteArray := ⟨#[120, 32, 43, 32, 120, 115]⟩
def bYs : ByteArray := ⟨#[121, 32, 43, 32, 120, 115]⟩
def tXs : List Tk := [⟨1, ⟨#[120]⟩, 0⟩, ⟨4, ⟨#[43]⟩, 2⟩, ⟨1, ⟨#[120, 115]⟩, 4⟩]
theorem good_x : goodTk ⟨1, bX, 0⟩ = true := by rfl
theorem good_y : goodTk ⟨1, bY, 0⟩ = true := by rfl
theorem olds_x : placesOf bX bY tXs = [⟨0, 1, bY⟩] := by simp [placesOf, tXs, bX, ByteArray.toList_eq, ByteArray.size]
theorem olds_y : placesOf bY bY tXs = [] := by simp [placesOf, tXs, bY, ByteArray.toList_eq]
theorem right_x : right bXs.size [⟨0, 1, bY⟩] = true := by rfl
theorem edited_x : edited bXs (eds bXs [⟨0, 1, bY⟩]) = bYs := by rfl
theorem small_x : ∀ x ∈ ([⟨0, 1, bY⟩] : List Sp), x.text.size ≤ 100000 := by intro x hx; simp at hx; subst hx; decide
theorem pos_x : ∀ t ∈ tXs, t.pos ≤ 100000 := by decide

set_option maxRecDepth 100000 in
set_option maxHeartbeats 2000000 in
theorem rename_xs (w : World) (hG : Gl w) :
    Calls Tryz.prog 14 #[.string bXs, .string bX, .string bY] w fun e w' => e = .returned (.tuple #[.string bYs, .int .i64 0]) ∧ Below w.heap.size w w' := by
  have htk := fun W hG' => tokens_any bXs W (by decide) hG'
  rw [show tokens bXs = (tXs, 0, 0) from xs_tokens] at htk
  have Htk := Lib.hid htk
  have hn1 := fun W hG' => isName_any bX W (by decide) hG'
  rw [good_x] at hn1
  have hn2 := fun W hG' => isName_any bY W (by decide) hG'
  rw [good_y] at hn2
  have Hn1 := Lib.hid hn1
  have Hn2 := Lib.hid hn2
  have hp1 := fun W a ha => placesOf_any a tXs bX bY W ha (by decide) pos_x (by decide)
  rw [olds_x] at hp1
  have hp2 := fun W a ha => placesOf_any a tXs bY bY W ha (by decide) pos_x (by decide)
  rw [olds_y] at hp2
  have he1 := fun W a ha => editsOf_any bXs a [⟨0, 1, bY⟩] W (by decide) ha (by decide) (fun x hx => Nat.le_trans (small_x x hx) (by decide)) right_x
  have he2 := fun W a ha => edited_any bXs a (eds bXs [⟨0, 1, bY⟩]) W (by decide) ha (by decide) (fun x hx => Nat.le_trans (ed_small hx (by decide) small_x).1 (by decide)) (by rw [eds_sp]; exact right_x)
  rw [edited_x] at he2
  have Hp1 := Lib.hid hp1
  have Hp2 := Lib.hid hp2
  have He1 := Lib.hid he1
  have He2 := Lib.hid he2
  clear htk hn1 hn2 hp1 hp2 he1 he2
  go_enter Tryz.func14, Tryz.ntmps14
  go_wp2_with (first
    | (go_at_call 29; refine (He2.out _ _ (SlEd.of_own hown5)).mono ?_; rintro e w7 ⟨rfl, hb7⟩)
    | (go_at_call 32; refine (He1.out _ _ ((SlSp.of_own hown4).below hb5)).mono ?_; rintro e w6 ⟨v5, rfl, hown5, hb6⟩)
    | (go_at_call 31; refine (Hp2.out _ _ (((hsl.below hb2).below hb3).below hb4)).mono ?_; rintro e w5 ⟨v4, rfl, hown6, hb5⟩; obtain ⟨A3, c3, rfl⟩ := own_form hown6)
    | (go_at_call 31; refine (Hp1.out _ _ ((hsl.below hb2).below hb3)).mono ?_; rintro e w4 ⟨v3, rfl, hown4, hb4⟩; obtain ⟨A2, c2, rfl⟩ := own_form hown4)
    | (go_at_call 30; refine (Hn2.out _ ((hG.next hb1).next hb2)).mono ?_; rintro e w3 ⟨rfl, hb3⟩)
    | (go_at_call 30; refine (Hn1.out _ (hG.next hb1)).mono ?_; rintro e w2 ⟨rfl, hb2⟩)
    | (go_at_call 11; refine (Htk.out _ hG).mono ?_; rintro e w1 ⟨v, rfl, hown, hb1⟩; obtain ⟨A1, c1, rfl⟩ := own_form hown; have hsl := SlTk.of_own hown))
  go_ret2
  have z1 := hb1.size
  have z2 := hb2.size
  have z3 := hb3.size
  have z4 := hb4.size
  have z5 := hb5.size
  have z6 := hb6.size
  exact ⟨rfl, (((((hb1.trans (hb2.mono z1)).trans (hb3.mono (by omega))).trans (hb4.mono (by omega))).trans (hb5.mono (by omega))).trans (hb6.mono (by omega))).trans (hb7.mono (by omega))⟩

end Go.Proofs.YthjnoboceibjjaaGreatDoor.Lx
