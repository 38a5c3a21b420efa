/- Splices of package lex: the text after edits. -/
import Derived.Test.YthjnoboceibjjaaGreatDoorWalkL
import Derived.Lib.AppendStr
namespace Go.Proofs.YthjnoboceibjjaaGreatDoor.Lx
open Go Go.Proofs Go.RowKit Go.Shelf

theorem len_list (s : ByteArray) : s.data.toList.length = s.size := Array.length_toList
theorem extract_list (s : ByteArray) (a b : Nat) : (s.extract a b).data.toList = (s.data.toList.drop a).take (b - a) := by
  simp [ByteArray.data_extract, List.extract_eq_take_drop]
theorem extract_cells (s : ByteArray) (a b : Nat) : Lib.strCells (s.extract a b) = Lib.byteCells ((s.data.toList.drop a).take (b - a)) := by
  rw [Lib.strCells_eq, extract_list]
theorem extract_end (s : ByteArray) (a : Nat) : Lib.strCells (s.extract a s.size) = Lib.byteCells (s.data.toList.drop a) := by
  rw [extract_cells, List.take_of_length_le]
  rw [List.length_drop]
  exact Nat.le_refl _
theorem kept_cell {b n : Nat} {w w' : World} {cs : List Value} {T : TypeId} (h : Lib.OthersKept 5 (some b) w w') (hn : w.heap[n]? = some (.cells cs.toArray T (0, 0))) (hb : n ≠ b) (hT : T ≠ 5) (j : Nat) (u : Value) (hu : cs[j]? = some u) :
    w'.cell? ⟨n, j, none⟩ = some u := by
  have h1 := h n _ hn (fun e => hb (Option.some.inj e)) (fun c fz e => by injection e with _ e2; exact hT e2)
  rw [Lib.cell_of_heap h1]
  simpa using hu
theorem new_heap (W : World) (o : Obj) : (W.alloc o).heap[W.heap.size]? = some o := heap_alloc_new W o
theorem alloc_sz (W : World) (o : Obj) : (W.alloc o).heap.size = W.heap.size + 1 := by simp
theorem bat_alloc {B b : Nat} {p : Value} {bs : List Value} {W : World} (h : Lib.BuilderAt 48 5 B b p bs W) (o : Obj) : Lib.BuilderAt 48 5 B b p bs (W.alloc o) := by
  have hl := h.lt
  obtain ⟨hB, v, hbk, hown, hne⟩ := h
  exact ⟨hB, v, (Lib.alloc_old W o b hl).trans hbk, hown.alloc o, hne⟩
theorem isb_alloc {B b : Nat} {bs : List Value} {W : World} (h : Lib.IsBuilder 48 5 B b bs W) (o : Obj) : Lib.IsBuilder 48 5 B b bs (W.alloc o) := by
  rcases h with h | h
  · exact Or.inl (bat_alloc h o)
  · exact Or.inr (bat_alloc h o)
theorem kept_new {b : Nat} {W W' : World} {cs : List Value} {T : TypeId} (h : Lib.OthersKept 5 (some b) (W.alloc (.cells cs.toArray T)) W') (hb : b < W.heap.size) (hT : T ≠ 5) (j : Nat) (u : Value) (hu : cs[j]? = some u) :
    W'.cell? ⟨W.heap.size, j, none⟩ = some u := kept_cell h (new_heap _ _) (by omega) hT j u hu

set_option maxRecDepth 100000 in
set_option maxHeartbeats 1000000 in
theorem edited_any (s : ByteArray) (a : Value) (l : List Ed) (w : World) (hs : s.size ≤ 100000) (ha : SlEd w a l) (hl : l.length ≤ 1000) (ht : ∀ x ∈ l, x.sp.text.size ≤ 1000000) (hr : rightFrom s.size 0 (l.map Ed.sp) = true) :
    Calls Tryz.prog 29 #[.string s, a] w fun e w' => e = .returned (.string (edited s l)) ∧ Below w.heap.size w w' := by
  obtain ⟨A, ca, rfl, hA⟩ := ha
  go_enter Tryz.func29, Tryz.ntmps29
  go_wp2
  go_loopw [6, 11] (fun t i wr => ∃ (k a : Nat) (pre : List UInt8), k ≤ l.length ∧ i = .int .i64 k ∧ t = .int .i64 a ∧ a ≤ s.size ∧ rightFrom s.size a ((l.drop k).map Ed.sp) = true ∧ editedFrom s 0 l = pre ++ editedFrom s a (l.drop k) ∧
      pre.length ≤ k * 1100000 ∧ Lib.IsBuilder 48 5 w.heap.size w.heap.size (Lib.byteCells pre) wr ∧ Below w.heap.size w wr ∧ w.heap.size < wr.heap.size) (fun _ i _ => l.length - (intOf i).toNat)
  case atStart => exact ⟨0, 0, [], Nat.zero_le _, rfl, rfl, Nat.zero_le _, hr, rfl, by simp, Lib.fresh_isBuilder _ _ _, (Below.refl _ _).alloc (Nat.le_refl _) _, by rw [alloc_sz]; omega⟩
  case round =>
    obtain ⟨k, at_, pre, hk, rfl, rfl, hat, hri, hE, hpl, hbd, hbw, hbs⟩ := hrel
    by_cases hlt : k < l.length
    · obtain ⟨b1, o1, rfl, hb1, hc1⟩ := hA (by omega)
      obtain ⟨p1, p2, p3, p4, p5⟩ := hc1 k _ (List.getElem?_eq_getElem hlt)
      have p1' := (hbw.cell (p := ⟨b1, o1 + k * 5, none⟩) hb1).trans p1
      have p2' := (hbw.cell (p := ⟨b1, o1 + k * 5 + 1, none⟩) hb1).trans p2
      have p3' := (hbw.cell (p := ⟨b1, o1 + k * 5 + 2, none⟩) hb1).trans p3
      have p4' := (hbw.cell (p := ⟨b1, o1 + k * 5 + 3, none⟩) hb1).trans p4
      have p5' := (hbw.cell (p := ⟨b1, o1 + k * 5 + 4, none⟩) hb1).trans p5
      clear p1 p2 p3 p4 p5 hc1 hA
      have hd : l.drop k = l[k] :: l.drop (k + 1) := List.drop_eq_getElem_cons hlt
      have htx := ht _ (List.getElem_mem hlt)
      rw [hd] at hri hE
      generalize l[k] = x at p1' p2' p3' p4' p5' hri hE htx
      obtain ⟨⟨xlo, xhi, xt⟩, xo, xp⟩ := x
      rw [List.map_cons] at hri
      obtain ⟨q1, q2, q3, hri'⟩ := rightFrom_cons hri
      rw [editedFrom] at hE
      dsimp only at p1' p2' p3' p4' p5' htx q1 q2 q3 hE hri'
      obtain ⟨lo, rfl⟩ := Int.eq_ofNat_of_zero_le (show 0 ≤ xlo by omega)
      obtain ⟨hi_, rfl⟩ := Int.eq_ofNat_of_zero_le (show 0 ≤ xhi by omega)
      have q0 : at_ ≤ lo := by omega
      have q4 : lo ≤ hi_ := by omega
      have q5 : hi_ ≤ s.size := by omega
      simp only [Int.toNat_natCast] at hE
      have HE := Lib.hid hE
      have HR := Lib.hid hri'
      have HP := Lib.hid hpl
      have hz1 : (s.extract at_ lo).size ≤ 100000 := by simp; omega
      have HZ := Lib.hid hz1
      clear hE hri' hri hd hpl hz1
      have hbz := hbw.size
      have hbA : Lib.IsBuilder 48 5 w.heap.size w.heap.size (Lib.byteCells pre) (wr.alloc (.cells #[.int .i64 (lo : Int), .int .i64 (hi_ : Int), .string xt, .string xo, .int .i64 xp] 87)) := isb_alloc hbd _
      have hws := writeString_any w.heap.size w.heap.size (Lib.byteCells pre) (s.extract at_ lo) _ hbA (by have h1 := HP.out; have h2 := HZ.out; simp only [Lib.byteCells, List.length_map]; omega) (by rw [alloc_sz]; omega)
      have Hws := Lib.hid hws
      clear hws hbA
      have hw2 := fun w1 g => writeString_any w.heap.size w.heap.size (Lib.byteCells pre ++ Lib.strCells (s.extract at_ lo)) xt w1 (Or.inr g) (by have h1 := HP.out; have h2 := HZ.out; rw [List.length_append, Lib.strCells_length]; simp only [Lib.byteCells, List.length_map]; omega)
      have Hw2 := Lib.hid hw2
      clear hw2
      go_wp2_with (first
        | (go_at_call 19; refine (Hw2.out w1 g1 (by omega)).mono ?_; rintro e w2 ⟨rfl, g2, gb2, gk2⟩; have c3 := kept_new (gk1.trans gk2) hbs (by decide) 1 _ rfl)
        | (go_at_call 19; refine Hws.out.mono ?_; rintro e w1 ⟨rfl, g1, gb1, gk1⟩; have c1 := kept_new gk1 hbs (by decide) 1 _ rfl; have c2 := kept_new gk1 hbs (by decide) 2 _ rfl; have gs1 := gb1.size; rw [alloc_sz] at gs1))
      go_roundw
      case rel =>
        refine ⟨k + 1, hi_, pre ++ (s.data.toList.drop at_).take (lo - at_) ++ xt.data.toList, by omega, by go_num, rfl, q5, HR.out, ?_, ?_, ?_, ?_, ?_⟩
        · rw [HE.out]; simp [List.append_assoc]
        · have h1 := HP.out
          have h3 : s.data.toList.length = s.size := len_list s
          have h2 : ((s.data.toList.drop at_).take (lo - at_)).length ≤ 100000 := by simp only [List.length_take, List.length_drop]; omega
          have h4 : xt.data.toList.length = xt.size := len_list xt
          simp only [List.length_append]
          omega
        · rw [Lib.byteCells_append, Lib.byteCells_append, ← extract_cells, ← Lib.strCells_eq]; exact Or.inr g2
        · exact ((hbw.alloc hbz _).trans gb1).trans gb2
        · have := gb2.size; omega
      case measure => simp [intOf]; omega
    · have hfin : editedFrom s 0 l = pre ++ s.data.toList.drop at_ := by rw [hE, List.drop_of_length_le (by omega), editedFrom]
      have Hf := Lib.hid hfin
      have hbz := hbw.size
      have hws := writeString_any w.heap.size w.heap.size (Lib.byteCells pre) (s.extract at_ s.size) _ hbd (by simp only [Lib.byteCells, List.length_map, ByteArray.size_extract]; omega) hbz
      have Hws := Lib.hid hws
      clear hws hfin hE hri hA
      go_wp2_with (first
        | (go_at_call 19; refine Hws.out.mono ?_; rintro e w1 ⟨rfl, g1, gb1, gk1⟩; have g1' : Lib.IsBuilder 48 5 w.heap.size w.heap.size (Lib.byteCells (pre ++ s.data.toList.drop at_)) w1 := Or.inr (by rw [Lib.byteCells_append, ← extract_end]; exact g1))
        | (go_at_call 21; refine (Tryz.Builder_String_any w.heap.size w.heap.size _ _ g1' (by have := gb1.size; omega)).mono ?_; rintro e w2 ⟨rfl, gb2⟩))
      go_ret
      exact ⟨by rw [edited, Hf.out]; rfl, (hbw.trans gb1).trans gb2⟩

end Go.Proofs.YthjnoboceibjjaaGreatDoor.Lx
