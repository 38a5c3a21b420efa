/- The plain functions of chapter 1's tokens, second part: where a piece ends, its kind, all pieces of a text, its tokens and comments. -/
import Derived.Test.YthjnoboceibjjaaGreatDoorSpecA
import Derived.Lib.AtoiAll
import Derived.Lib.Fields
namespace Go.Proofs.YthjnoboceibjjaaGreatDoor.Lx

/-- Where the bytes from a place on that are as p says end. -/
def runTo (p : Nat → Bool) (s : ByteArray) : Nat → Nat → Nat
  | 0, a => a
  | f + 1, a => if a < s.size ∧ p (bt s a) = true then runTo p s f (a + 1) else a
def runEnd (p : Nat → Bool) (s : ByteArray) (a : Nat) : Nat := runTo p s (s.size - a) a

theorem runEnd_step {p : Nat → Bool} {s : ByteArray} {a : Nat} (h : a < s.size) (hp : p (bt s a) = true) : runEnd p s a = runEnd p s (a + 1) := by
  unfold runEnd
  rw [show s.size - a = (s.size - (a + 1)) + 1 from by omega, runTo, if_pos ⟨h, hp⟩]
theorem runEnd_stop {p : Nat → Bool} {s : ByteArray} {a : Nat} (h : s.size ≤ a ∨ p (bt s a) = false) : runEnd p s a = a := by
  unfold runEnd
  cases hf : s.size - a with
  | zero => rfl
  | succ f =>
    rw [runTo, if_neg]
    rintro ⟨h1, h2⟩
    rcases h with h | h
    · omega
    · rw [h] at h2; cases h2
theorem runTo_bounds (p : Nat → Bool) (s : ByteArray) : ∀ (f a : Nat), a ≤ runTo p s f a ∧ (a ≤ s.size → runTo p s f a ≤ s.size)
  | 0, a => ⟨Nat.le_refl _, fun h => h⟩
  | f + 1, a => by
    rw [runTo]
    split
    · rename_i h
      have := runTo_bounds p s f (a + 1)
      exact ⟨by omega, fun _ => this.2 (by omega)⟩
    · exact ⟨Nat.le_refl _, fun h => h⟩
theorem runEnd_le {p : Nat → Bool} {s : ByteArray} {a : Nat} (h : a ≤ s.size) : runEnd p s a ≤ s.size := (runTo_bounds p s _ a).2 h
theorem le_runEnd (p : Nat → Bool) (s : ByteArray) (a : Nat) : a ≤ runEnd p s a := (runTo_bounds p s _ a).1

/-- Classes as predicates. -/
def notFeed (c : Nat) : Bool := c != 10
def aln (c : Nat) : Bool := decide (cls c ∈ [4, 5, 6])
def dig (c : Nat) : Bool := decide (cls c = 6)

/-- Do two bytes that are one sign stand at a place? -/
def two (s : ByteArray) (a : Nat) : Bool := (bt s a == 58 && bt s (a + 1) == 61) || (bt s a == 45 && bt s (a + 1) == 62)

/-- Where the comment or token that begins at a place ends. -/
def pieceEnd (s : ByteArray) (a : Nat) : Nat :=
  if cls (bt s a) = 3 then runEnd notFeed s a
  else if cls (bt s a) = 4 ∨ cls (bt s a) = 6 then runEnd aln s a
  else if cls (bt s a) = 7 ∧ two s a = true then a + 2
  else a + 1

/-- The keywords, one after the other, and as lists of bytes. -/
def wordBytes : List UInt8 := [97, 110, 100, 32, 97, 115, 32, 98, 111, 111, 108, 32, 99, 101, 108, 108, 32, 99, 104, 111, 111, 115, 101, 32, 99, 111, 109, 32, 100, 101, 102, 32, 100, 111, 32, 101, 108, 115, 101, 32, 101, 120, 112, 111, 114, 116, 32, 102, 97, 108, 115, 101, 32, 102, 110, 32, 103, 101, 116, 32, 104, 97, 110, 103, 32, 105, 102, 32, 105, 109, 112, 111, 114, 116, 32, 105, 110, 32, 105, 110, 116, 32, 106, 117, 109, 112, 32, 108, 97, 98, 101, 108, 32, 110, 101, 119, 32, 110, 111, 116, 32, 110, 111, 116, 105, 99, 101, 32, 111, 102, 32, 111, 114, 32, 112, 117, 116, 32, 115, 107, 105, 112, 32, 116, 104, 101, 110, 32, 116, 114, 117, 101, 32, 119, 104, 105, 108, 101]
def words : List (List UInt8) := [[97, 110, 100], [97, 115], [98, 111, 111, 108], [99, 101, 108, 108], [99, 104, 111, 111, 115, 101], [99, 111, 109], [100, 101, 102], [100, 111], [101, 108, 115, 101], [101, 120, 112, 111, 114, 116], [102, 97, 108, 115, 101], [102, 110], [103, 101, 116], [104, 97, 110, 103], [105, 102], [105, 109, 112, 111, 114, 116], [105, 110], [105, 110, 116], [106, 117, 109, 112], [108, 97, 98, 101, 108], [110, 101, 119], [110, 111, 116], [110, 111, 116, 105, 99, 101], [111, 102], [111, 114], [112, 117, 116], [115, 107, 105, 112], [116, 104, 101, 110], [116, 114, 117, 101], [119, 104, 105, 108, 101]]
theorem fields_words : Go.Lib.fields wordBytes = words := by decide +kernel
def isWord (w : ByteArray) : Bool := decide (w.data.toList ∈ words)

/-- The number that digits spell. -/
def digVal (l : List UInt8) : Nat := l.foldl (fun n c => 10 * n + (c.toNat - 48)) 0

/-- What is wrong with a number. -/
def numErr (w : ByteArray) : Nat :=
  if (bt w 0 = 48 ∧ 1 < w.size) ∨ runEnd dig w 0 < w.size then 4 else if 1000000 < digVal w.data.toList then 3 else 0

/-- The kind of a comment or token, and what is wrong with it. -/
def kindOf (w : ByteArray) : Nat × Nat :=
  if cls (bt w 0) = 3 then (5, 0)
  else if cls (bt w 0) = 4 then (if isWord w = true then (3, 0) else if w.size ≤ 12 then (1, 0) else (0, 4))
  else if cls (bt w 0) = 6 then (2, numErr w)
  else if cls (bt w 0) = 7 then (4, 0)
  else (0, 4)

/-- A token or comment: its kind, its bytes, where it begins. -/
structure Tk where
  kind : Nat
  text : ByteArray
  pos : Nat

/-- A piece of a text: a token, with what is wrong with it. -/
structure Pc where
  tk : Tk
  err : Nat

def trimT (w : ByteArray) : ByteArray := if bt w 0 = 126 then w.extract 1 w.size else w

/-- The piece that begins at a place. -/
def piece (s : ByteArray) (a : Nat) : Pc :=
  ⟨⟨(kindOf (s.extract a (pieceEnd s a))).1, trimT (s.extract a (pieceEnd s a)), a⟩, (kindOf (s.extract a (pieceEnd s a))).2⟩

/-- The pieces from a place on. -/
def scan (s : ByteArray) : Nat → Nat → List Pc
  | 0, _ => []
  | f + 1, a => if a < s.size then (if cls (bt s a) = 2 then scan s f (a + 1) else piece s a :: scan s f (pieceEnd s a)) else []
def piecesFrom (s : ByteArray) (a : Nat) : List Pc := scan s (s.size - a) a

theorem lt_pieceEnd {s : ByteArray} {a : Nat} (h : a < s.size) : a < pieceEnd s a := by
  unfold pieceEnd
  split
  · rename_i h3
    rw [runEnd_step h (by
      unfold notFeed
      have : bt s a ≠ 10 := by intro e; rw [e] at h3; simp [cls] at h3
      simp [this])]
    have := le_runEnd notFeed s (a + 1)
    omega
  · split
    · rename_i h3
      rw [runEnd_step h (by unfold aln; rcases h3 with h3 | h3 <;> simp [h3])]
      have := le_runEnd aln s (a + 1)
      omega
    · split <;> omega
theorem pieceEnd_le {s : ByteArray} {a : Nat} (h : a < s.size) : pieceEnd s a ≤ s.size := by
  unfold pieceEnd
  split
  · exact runEnd_le (by omega)
  · split
    · exact runEnd_le (by omega)
    · split
      · rename_i h2
        have h3 := h2.2
        rcases Nat.lt_or_ge (a + 1) s.size with hl | hl
        · omega
        · exfalso
          have : bt s (a + 1) = 0 := by
            unfold bt
            rw [List.getD_eq_getElem?_getD, List.getElem?_eq_none (by simpa using hl)]
            rfl
          simp [two, this] at h3
      · omega

theorem scan_more (s : ByteArray) : ∀ (f g a : Nat), s.size - a ≤ f → s.size - a ≤ g → scan s f a = scan s g a
  | 0, 0, _, _, _ => rfl
  | 0, g + 1, a, h, _ => by rw [scan, scan, if_neg (by omega)]
  | f + 1, 0, a, _, h => by rw [scan, scan, if_neg (by omega)]
  | f + 1, g + 1, a, hf, hg => by
    rw [scan, scan]
    by_cases hl : a < s.size
    · rw [if_pos hl, if_pos hl]
      have := lt_pieceEnd hl
      split
      · exact scan_more s f g (a + 1) (by omega) (by omega)
      · rw [scan_more s f g (pieceEnd s a) (by omega) (by omega)]
    · rw [if_neg hl, if_neg hl]
theorem pieces_end {s : ByteArray} {a : Nat} (h : s.size ≤ a) : piecesFrom s a = [] := by
  unfold piecesFrom
  rw [show s.size - a = 0 from by omega, scan]
theorem pieces_blank {s : ByteArray} {a : Nat} (h : a < s.size) (hb : cls (bt s a) = 2) : piecesFrom s a = piecesFrom s (a + 1) := by
  unfold piecesFrom
  rw [show s.size - a = (s.size - (a + 1)) + 1 from by omega, scan, if_pos h, if_pos hb]
theorem pieces_piece {s : ByteArray} {a : Nat} (h : a < s.size) (hb : cls (bt s a) ≠ 2) : piecesFrom s a = piece s a :: piecesFrom s (pieceEnd s a) := by
  unfold piecesFrom
  have := lt_pieceEnd h
  rw [show s.size - a = (s.size - (a + 1)) + 1 from by omega, scan, if_pos h, if_neg hb, scan_more s _ (s.size - pieceEnd s a) _ (by omega) (by omega)]

/-- The tokens of pieces, where the error is, and what it is; acc: those before. -/
def collect : List Pc → List Tk → List Tk × Nat × Nat
  | [], acc => (acc, 0, 0)
  | p :: r, acc =>
    if p.tk.kind = 5 then collect r acc
    else if p.err = 0 then (if acc.length = 900 then ([], p.tk.pos, 5) else collect r (acc ++ [p.tk]))
    else ([], p.tk.pos, p.err)

/-- The tokens of a text; where the error is, and what it is. -/
def tokens (s : ByteArray) : List Tk × Nat × Nat :=
  if (textErr s).2 = 0 then collect (piecesFrom s 0) [] else ([], (textErr s).1, (textErr s).2)

/-- The comments of a text, and the error. -/
def notes (s : ByteArray) : List Tk × Nat :=
  if (textErr s).2 = 0 then (((piecesFrom s 0).filter (fun p => p.tk.kind == 5)).map Pc.tk, 0) else ([], (textErr s).2)

end Go.Proofs.YthjnoboceibjjaaGreatDoor.Lx
