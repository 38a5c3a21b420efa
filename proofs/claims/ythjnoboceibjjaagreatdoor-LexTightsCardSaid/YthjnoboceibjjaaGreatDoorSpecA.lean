/- The plain functions of chapter 1's tokens: classes of bytes, where a piece ends, what kind it is, all pieces of a text, its tokens and notes. They import nothing of the translation. -/
import Derived.Lib.Strings
import Derived.Lib.IndexBytes
namespace Go.Proofs.YthjnoboceibjjaaGreatDoor.Lx

/-- The byte at a place, as a number; 0 behind the end. -/
def bt (s : ByteArray) (i : Nat) : Nat := (s.data.toList.getD i 0).toNat

theorem bt_eq (s : ByteArray) (i : Nat) (h : i < s.size) : (s[i]'h).toNat = bt s i := by
  have h' : i < s.data.toList.length := by simpa using h
  have : s.data.toList.getD i 0 = s[i] := by
    rw [List.getD_eq_getElem?_getD, List.getElem?_eq_getElem h']; rfl
  unfold bt; rw [this]

theorem bt_lt (s : ByteArray) (i : Nat) : bt s i < 256 := UInt8.toNat_lt _

/-- The bytes of signs. -/
def signs : List Nat := [61, 60, 43, 45, 42, 33, 40, 41, 123, 125, 44, 59, 58, 46]

/-- What a byte can be in a text: 0 stray, 1 odd, 2 blank, 3 tilde, 4 small, 5 capital, 6 digit, 7 sign. -/
def cls (c : Nat) : Nat :=
  if c = 32 ∨ c = 10 then 2 else if c = 126 then 3 else if 97 ≤ c ∧ c ≤ 122 then 4 else if 65 ≤ c ∧ c ≤ 90 then 5
  else if 48 ≤ c ∧ c ≤ 57 then 6 else if c ∈ signs then 7 else if 32 < c ∧ c < 126 then 1 else 0

theorem cls_lt (c : Nat) : cls c < 8 := by unfold cls; repeat' (split <;> try omega)

/-- Does a byte stand in a text? -/
def okb (c : Nat) : Bool := c == 10 || (decide (32 ≤ c) && decide (c ≤ 126))

theorem sign_idx (c : Nat) (h : c < 256) : 0 ≤ Go.Lib.indexByte [61, 60, 43, 45, 42, 33, 40, 41, 123, 125, 44, 59, 58, 46] (UInt8.ofNat c) ↔ c ∈ signs := by
  have H : ∀ c : Fin 256, (decide (0 ≤ Go.Lib.indexByte [61, 60, 43, 45, 42, 33, 40, 41, 123, 125, 44, 59, 58, 46] (UInt8.ofNat c.val)) = decide (c.val ∈ signs)) := by decide +kernel
  simpa using H ⟨c, h⟩

theorem cls_stray (c : Nat) (h : c < 256) : cls c = 0 ↔ okb c = false := by
  have H : ∀ c : Fin 256, (decide (cls c.val = 0) = !okb c.val) := by decide +kernel
  have h2 : decide (cls c = 0) = !okb c := H ⟨c, h⟩
  cases ho : okb c
  · rw [ho] at h2
    exact ⟨fun _ => rfl, fun _ => of_decide_eq_true h2⟩
  · rw [ho] at h2
    exact ⟨fun e => absurd e (of_decide_eq_false h2), fun e => by cases e⟩

/-- The place of the first byte from i on that stands in no text. -/
def badFrom (s : ByteArray) : Nat → Nat → Option Nat
  | 0, _ => none
  | f + 1, i => if okb (bt s i) then badFrom s f (i + 1) else some i
def bad (s : ByteArray) : Option Nat := badFrom s s.size 0

theorem bad_at (s : ByteArray) (k : Nat) (hk : k ≤ s.size) (h : ∀ j, j < k → okb (bt s j) = true) : bad s = badFrom s (s.size - k) k := by
  induction k with
  | zero => rfl
  | succ k ih =>
    rw [ih (by omega) (fun j hj => h j (by omega)), show s.size - k = (s.size - (k + 1)) + 1 from by omega, badFrom, if_pos (h k (by omega))]
theorem bad_hit (s : ByteArray) (k : Nat) (hk : k < s.size) (h : ∀ j, j < k → okb (bt s j) = true) (hb : okb (bt s k) = false) : bad s = some k := by
  rw [bad_at s k (by omega) h, show s.size - k = (s.size - (k + 1)) + 1 from by omega, badFrom, if_neg (by simp [hb])]
theorem bad_none (s : ByteArray) (h : ∀ j, j < s.size → okb (bt s j) = true) : bad s = none := by
  rw [bad_at s s.size (Nat.le_refl _) h, Nat.sub_self, badFrom]
theorem ok_of_bad (s : ByteArray) (h : bad s = none) : ∀ j, j < s.size → okb (bt s j) = true := by
  intro j
  induction j using Nat.strongRecOn with
  | _ j ih =>
    intro hj
    rcases hb : okb (bt s j) with _ | _
    · rw [bad_hit s j hj (fun i hi => ih i hi (by omega)) hb] at h; cases h
    · rfl

/-- The place as Go says it: -1 if there is none. -/
def badI (s : ByteArray) : Int := match bad s with
  | some i => i
  | none => -1

/-- The error of a text, and where it is. -/
def textErr (s : ByteArray) : Nat × Nat := if 2500 < s.size then (0, 5) else match bad s with
  | some i => (i, 2)
  | none => (0, 0)

end Go.Proofs.YthjnoboceibjjaaGreatDoor.Lx
