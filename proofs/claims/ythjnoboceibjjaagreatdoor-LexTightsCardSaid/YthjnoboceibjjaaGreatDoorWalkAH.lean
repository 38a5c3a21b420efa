/- The document's own All, Tokens and Notes. -/
import Derived.Test.YthjnoboceibjjaaGreatDoorWalkAF
import Derived.Test.YthjnoboceibjjaaGreatDoorSpecL
import Derived.Maps.AppendAt
namespace Go.Proofs.YthjnoboceibjjaaGreatDoor.Lx
open Go Go.Proofs Go.RowKit Go.Shelf

/-- Two values of the call's own that do not share a row. -/
def Apart (v u : Value) : Prop := v.ownBlock = none ∨ v.ownBlock ≠ u.ownBlock
theorem Apart.kept {W W' : World} {base : Nat} {e : TypeId} {size n : Nat} {v u : Value} {xs : List Value} (h : W.ownsRow base e size v n xs) (ha : Apart v u) (hg : W.grownBy W' u.ownBlock) : W'.ownsRow base e size v n xs := by
  refine h.kept hg ?_
  rcases h.2 with ⟨rfl, _⟩ | ⟨g, cap, cur, rfl, _⟩
  · exact .inl rfl
  · refine .inr fun e' => ?_
    rcases ha with h1 | h1
    · simp [Value.ownBlock] at h1
    · exact h1 e'
theorem own_none_or_lt {W : World} {base : Nat} {e : TypeId} {size n : Nat} {v : Value} {xs : List Value} (h : W.ownsRow base e size v n xs) : v.ownBlock = none ∨ ∃ g, v.ownBlock = some g ∧ g < W.heap.size := by
  cases hv : v.ownBlock with
  | none => exact .inl rfl
  | some g => exact .inr ⟨g, rfl, (World.ownsRow.lt h g hv).2⟩
/-- Behind an append to u: v is still apart. -/
theorem Apart.next {W : World} {base : Nat} {e : TypeId} {size n : Nat} {v u u' : Value} {xs : List Value} (h : W.ownsRow base e size v n xs) (ha : Apart v u) {H : Nat} (hH : W.heap.size ≤ H) (hu : u'.ownBlock = u.ownBlock ∨ u'.ownBlock = some H) : Apart v u' := by
  rcases own_none_or_lt h with h0 | ⟨g, hg, hlt⟩
  · exact .inl h0
  · refine .inr ?_
    rcases hu with hu | hu
    · rw [hu]
      rcases ha with h1 | h1
      · rw [hg] at h1; cases h1
      · exact h1
    · rw [hu, hg]
      intro e
      injection e with e
      omega
theorem Apart.symm {W : World} {base : Nat} {e : TypeId} {size n : Nat} {v u : Value} {xs : List Value} (_h : W.ownsRow base e size u n xs) (ha : Apart v u) : Apart u v := by
  cases hu : u.ownBlock with
  | none => exact .inl hu
  | some g =>
    refine .inr ?_
    rcases ha with h1 | h1
    · rw [h1, hu]; simp
    · exact fun e => h1 e.symm

theorem ownsRow_below {W W' : World} {base : Nat} {e : TypeId} {size n : Nat} {v : Value} {xs : List Value} (h : W.ownsRow base e size v n xs) (hb : Below W.heap.size W W') : W'.ownsRow base e size v n xs := by
  refine h.kept (row := none) ⟨hb.os, hb.tape, hb.output, hb.size, fun i hi _ => hb.block i hi⟩ ?_
  rcases h.2 with ⟨rfl, _⟩ | ⟨g, cap, cur, rfl, _⟩
  · exact .inl rfl
  · exact .inr (by simp [Value.ownBlock])
/-- The comment that begins at a place. -/
theorem note_piece {s : ByteArray} {a : Nat} (ha : a < s.size) (h3 : cls (bt s a) = 3) :
    pieceEnd s a = runEnd notFeed s a ∧ a < runEnd notFeed s a ∧ runEnd notFeed s a ≤ s.size ∧ (s.extract a (runEnd notFeed s a)).size = runEnd notFeed s a - a ∧
    (piece s a).tk = ⟨5, (s.extract a (runEnd notFeed s a)).extract 1 (s.extract a (runEnd notFeed s a)).size, a⟩ := by
  have hp : pieceEnd s a = runEnd notFeed s a := by unfold pieceEnd; rw [if_pos h3]
  have hlt := lt_pieceEnd ha
  have hle := pieceEnd_le ha
  rw [hp] at hlt hle
  have hb0 : bt (s.extract a (runEnd notFeed s a)) 0 = bt s a := by rw [bt_extract (by omega)]; rfl
  have h126 : bt s a = 126 := (cls_tilde _ (bt_lt s a)).1 h3
  refine ⟨hp, hlt, hle, by simp; omega, ?_⟩
  show (⟨(kindOf (s.extract a (pieceEnd s a))).1, trimT (s.extract a (pieceEnd s a)), a⟩ : Tk) = _
  rw [hp]
  unfold kindOf trimT
  rw [hb0, if_pos h3, if_pos h126]

/-- A box that was made ahead of an append is as it was. -/
theorem box_kept {W w2 : World} {base : Nat} {e : TypeId} {size n : Nat} {v : Value} {xs : List Value} (h : W.ownsRow base e size v n xs) {cs : Array Value} {t : TypeId} {o : Obj} (hg : ((W.alloc (.cells cs t)).alloc o).grownBy w2 v.ownBlock) (i : Nat) :
    w2.cell? ⟨W.heap.size, i, none⟩ = cs[i]? := by
  have hne : some W.heap.size ≠ v.ownBlock := by
    intro e
    have := (World.ownsRow.lt h _ e.symm).2
    omega
  have h1 := hg.block W.heap.size (by rw [alloc_sz, alloc_sz]; omega) hne
  have h2 : ((W.alloc (.cells cs t)).alloc o).heap[W.heap.size]? = (W.alloc (.cells cs t)).heap[W.heap.size]? := Below.heap_alloc (W.alloc (.cells cs t)) o W.heap.size (by rw [alloc_sz]; omega)
  exact (cell_of_row w2 W.heap.size i cs t (0, 0) (h1.trans (h2.trans (heap_alloc_new W _))))
/-- What the document's own All answers. -/
def AllP (s : ByteArray) (w : World) (e : Ending) (w' : World) : Prop :=
  ∃ v u, e = .returned (.tuple #[v, u, .int .i64 ((collect (piecesFrom s 0) []).2.1 : Int), .int .i64 ((collect (piecesFrom s 0) []).2.2 : Int)]) ∧
    w'.ownsRow w.heap.size 33 3 v (collect (piecesFrom s 0) []).1.length (tkCells (collect (piecesFrom s 0) []).1) ∧ Below w.heap.size w w'
theorem AllP.bad {s : ByteArray} {w w' : World} {pos err : Nat} {p e : Int} (h : collect (piecesFrom s 0) [] = ([], pos, err)) (hp : p = (pos : Int)) (he : e = (err : Int)) (hb : Below w.heap.size w w') :
    AllP s w (.returned (.tuple #[.slice none 0 0, .slice none 0 0, .int .i64 p, .int .i64 e])) w' := by
  refine ⟨.slice none 0 0, .slice none 0 0, ?_, ?_, hb⟩
  · rw [h, hp, he]
  · rw [h]; exact World.ownsRow_nil _ _ _ _
theorem AllP.good {s : ByteArray} {w w' : World} {acc : List Tk} {v u : Value} (h : collect (piecesFrom s 0) [] = (acc, 0, 0)) (ho : w'.ownsRow w.heap.size 33 3 v acc.length (tkCells acc)) (hb : Below w.heap.size w w') :
    AllP s w (.returned (.tuple #[v, u, .int .i64 0, .int .i64 0])) w' := by
  refine ⟨v, u, ?_, ?_, hb⟩
  · rw [h]; rfl
  · rw [h]; exact ho

theorem scan_len (s : ByteArray) : ∀ (f a : Nat), s.size - a ≤ f → (piecesFrom s a).length ≤ s.size - a := by
  intro f
  induction f with
  | zero => intro a hf; rw [pieces_end (by omega)]; simp
  | succ f ih =>
    intro a hf
    by_cases ha : a < s.size
    · by_cases h2 : cls (bt s a) = 2
      · rw [pieces_blank ha h2]; have := ih (a + 1) (by omega); omega
      · have hlt := lt_pieceEnd ha
        have hle := pieceEnd_le ha
        rw [pieces_piece ha h2, List.length_cons]; have := ih (pieceEnd s a) (by omega); omega
    · rw [pieces_end (by omega)]; simp
theorem notes_len (s : ByteArray) : (notes s).1.length ≤ s.size := by
  unfold notes
  split
  · have := scan_len s s.size 0 (by omega)
    have h2 := List.length_filter_le (fun p : Pc => p.tk.kind == 5) (piecesFrom s 0)
    rw [List.length_map]; omega
  · simp
theorem col_short : ∀ (l : List Pc) (acc : List Tk), acc.length ≤ 900 → (collect l acc).1.length ≤ 900 := by
  intro l
  induction l with
  | nil => intro acc h; exact h
  | cons p r ih =>
    intro acc h
    rw [collect]
    split
    · exact ih acc h
    · split
      · split
        · simp
        · exact ih _ (by simp; omega)
      · simp
theorem tokens_len (s : ByteArray) : (tokens s).1.length ≤ 900 := by
  unfold tokens
  split
  · exact col_short _ [] (by simp)
  · simp

end Go.Proofs.YthjnoboceibjjaaGreatDoor.Lx
