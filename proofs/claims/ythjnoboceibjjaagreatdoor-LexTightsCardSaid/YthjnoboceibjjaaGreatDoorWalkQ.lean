/- Splices of package lex: placesOf and Rename. -/
import Derived.Test.YthjnoboceibjjaaGreatDoorWalkP
namespace Go.Proofs.YthjnoboceibjjaaGreatDoor.Lx
open Go Go.Proofs Go.RowKit Go.Shelf

/-- The splices that put a name in the place of each name. -/
def placesOf (old name : ByteArray) (l : List Tk) : List Sp := (l.filter fun t => decide (t.text.toList = old.toList)).map fun t => ⟨(t.pos : Int), (t.pos : Int) + old.size, name⟩
theorem placesOf_snoc (old name : ByteArray) (l : List Tk) (t : Tk) : placesOf old name (l ++ [t]) = placesOf old name l ++ (if t.text.toList = old.toList then [⟨(t.pos : Int), (t.pos : Int) + old.size, name⟩] else []) := by
  by_cases h : t.text.toList = old.toList <;> simp [placesOf, h]
theorem placesOf_len (old name : ByteArray) (l : List Tk) : (placesOf old name l).length ≤ l.length := by
  simp only [placesOf, List.length_map]; exact List.length_filter_le _ _

set_option maxRecDepth 100000 in
set_option maxHeartbeats 2000000 in
theorem placesOf_any (a : Value) (l : List Tk) (old name : ByteArray) (w : World) (ha : SlTk w a l) (hl : l.length ≤ 1000) (hp : ∀ t ∈ l, t.pos ≤ 100000) (ho : old.size ≤ 100000) :
    Calls Tryz.prog 31 #[a, .string old, .string name] w fun e w' => ∃ v, e = .returned v ∧ w'.ownsRow w.heap.size 40 3 v (placesOf old name l).length (spCells (placesOf old name l)) ∧ Below w.heap.size w w' := by
  obtain ⟨A, ca, rfl, hA⟩ := ha
  obtain ⟨i0, hi, hz0, hz1, hz2⟩ := info_parts sp_info
  go_enter Tryz.func31, Tryz.ntmps31
  go_wp2
  go_loopw [7, 12] (fun v i wr => ∃ k : Nat, k ≤ l.length ∧ i = .int .i64 k ∧ wr.ownsRow w.heap.size 40 3 v (placesOf old name (l.take k)).length (spCells (placesOf old name (l.take k))) ∧ Below w.heap.size w wr) (fun _ i _ => l.length - (intOf i).toNat)
  case atStart => exact ⟨0, Nat.zero_le _, rfl, World.ownsRow_nil _ _ _ _, Below.refl _ _⟩
  case round =>
    obtain ⟨k, hk, rfl, hown, hbw⟩ := hrel
    by_cases hlt : k < l.length
    · obtain ⟨b1, o1, rfl, hb1, hc1⟩ := hA (by omega)
      obtain ⟨p1, p2, p3⟩ := hc1 k _ (List.getElem?_eq_getElem hlt)
      have p1' := (hbw.cell (p := ⟨b1, o1 + k * 3, none⟩) hb1).trans p1
      have p2' := (hbw.cell (p := ⟨b1, o1 + k * 3 + 1, none⟩) hb1).trans p2
      have p3' := (hbw.cell (p := ⟨b1, o1 + k * 3 + 2, none⟩) hb1).trans p3
      clear p1 p2 p3 hc1 hA
      have hpx := hp _ (List.getElem_mem hlt)
      have htk : placesOf old name (l.take (k + 1)) = placesOf old name (l.take k) ++ (if l[k].text.toList = old.toList then [⟨(l[k].pos : Int), (l[k].pos : Int) + old.size, name⟩] else []) := by rw [List.take_succ_eq_append_getElem hlt]; exact placesOf_snoc _ _ _ _
      have Htk := Lib.hid htk
      clear htk
      have hcl : (placesOf old name (l.take k)).length ≤ 1000 := Nat.le_trans (placesOf_len _ _ _) (by rw [List.length_take]; omega)
      generalize l[k] = x at p1' p2' p3' hpx Htk
      have hbz := hbw.size
      by_cases hx : x.text.toList = old.toList
      · have Htk2 := Lib.hid (show placesOf old name (l.take (k + 1)) = placesOf old name (l.take k) ++ [⟨(x.pos : Int), (x.pos : Int) + old.size, name⟩] by rw [Htk.out, if_pos hx])
        go_wp2_with (at_builtin; refine wpList_append_own _ rfl _ _ 41 rfl w.heap.size 40 i0 _ 3 32 Tryz.underlying41 hi hz0 hz1 hz2 rfl (by decide) _ _ _ rfl ((hown.alloc _).alloc _) ⟨wr.heap.size + 1, 0, none⟩ 1 1 (spVals ⟨(x.pos : Int), (x.pos : Int) + old.size, name⟩) rfl rfl (lit_new _ _ _ (by rw [alloc_sz]) _) (fun u hu => by simp [spVals] at hu; rcases hu with rfl | rfl | rfl <;> rfl) (by unfold maxLen; omega) (by omega) (by rw [alloc_sz, alloc_sz]; omega) ?_; intro v' w2 hown' hgrow _)
        have hbA := ((hbw.alloc hbz (.cells #[.int .u8 (x.kind : Int), .string x.text, .int .i64 (x.pos : Int)] 33)).alloc (by rw [alloc_sz]; omega) (.cells #[.int .i64 (x.pos : Int), .int .i64 ((x.pos : Int) + old.size), .string name] 40))
        go_roundw
        case rel =>
          refine ⟨k + 1, by omega, by go_num, ?_, ?_⟩
          · rw [Htk2.out, spCells_snoc, List.length_append]; exact hown'
          · exact hbA.grown hgrow hbA.size (fun j hj => (World.ownsRow.lt hown j hj).1)
        case measure => simp [intOf]; omega
      · have Htk2 := Lib.hid (show placesOf old name (l.take (k + 1)) = placesOf old name (l.take k) by rw [Htk.out, if_neg hx, List.append_nil])
        have hx2 : (x.text.toList == old.toList) = false := by simp [hx]
        have hx3 : (old.toList == x.text.toList) = false := by simp; exact fun e => hx e.symm
        go_wp2
        go_roundw
        case rel => exact ⟨k + 1, by omega, by go_num, by rw [Htk2.out]; exact hown.alloc _, hbw.alloc hbz _⟩
        case measure => simp [intOf]; omega
    · have hkl : l.take k = l := List.take_of_length_le (by omega)
      rw [hkl] at hown
      go_wp2
      go_ret
      exact ⟨_, rfl, hown, hbw⟩

/-- A text in which names are another one, and the error. -/
def renErr (s old name : ByteArray) : Nat :=
  if (tokens s).2.2 ≠ 0 then (tokens s).2.2 else if goodTk ⟨1, old, 0⟩ = false ∨ goodTk ⟨1, name, 0⟩ = false then 2
  else if (placesOf old name (tokens s).1).length = 0 then 7 else if 0 < (placesOf name name (tokens s).1).length then 6
  else if 2500 < (edited s (eds s (placesOf old name (tokens s).1))).size then 5 else 0
def renamed (s old name : ByteArray) : ByteArray := if renErr s old name = 0 then edited s (eds s (placesOf old name (tokens s).1)) else ⟨#[]⟩

def bytesOf (l : List UInt8) : ByteArray := ⟨l.toArray⟩
theorem xs_tokens : tokens ⟨#[120, 32, 43, 32, 120, 115]⟩ = ([⟨1, ⟨#[120]⟩, 0⟩, ⟨4, ⟨#[43]⟩, 2⟩, ⟨1, ⟨#[120, 115]⟩, 4⟩], 0, 0) := by rfl

end Go.Proofs.YthjnoboceibjjaaGreatDoor.Lx
