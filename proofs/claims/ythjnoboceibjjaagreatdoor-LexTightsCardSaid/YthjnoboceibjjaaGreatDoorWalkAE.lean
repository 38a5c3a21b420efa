/- The document's own Token: keywords, signs, and the token that begins at a place. -/
import Derived.Test.YthjnoboceibjjaaGreatDoorWalkAD
namespace Go.Proofs.YthjnoboceibjjaaGreatDoor.Lx
open Go Go.Proofs Go.RowKit Go.Shelf

/-- A text of these bytes. -/
def bStr (l : List UInt8) : ByteArray := ⟨l.toArray⟩
def strCellsOf (l : List (List UInt8)) : Array Value := (l.map fun x => Value.string (bStr x)).toArray
/-- The signs, longer ones first. -/
def sgL : List (List UInt8) := [[58, 61], [45, 62], [61], [60], [43], [45], [42], [33], [40], [41], [123], [125], [44], [59], [58], [46]]

theorem keywords_cells (w : World) :
    Calls Tryz.prog 64 #[] w fun e w' => e = .returned (.slice (some ⟨w.heap.size, 0, none⟩) 30 30) ∧ w.alloc (.cells (strCellsOf words) 9) = w' := by
  go_enter Tryz.func64, Tryz.ntmps64
  go_wp2
  go_ret
  exact ⟨rfl, rfl⟩
theorem signs_cells (w : World) :
    Calls Tryz.prog 67 #[] w fun e w' => e = .returned (.slice (some ⟨w.heap.size, 0, none⟩) 16 16) ∧ w.alloc (.cells (strCellsOf sgL) 9) = w' := by
  go_enter Tryz.func67, Tryz.ntmps67
  go_wp2
  go_ret
  exact ⟨rfl, rfl⟩

theorem strCells_at (l : List (List UInt8)) (k : Nat) (h : k < l.length) : (strCellsOf l)[k]? = some (.string (bStr (l.getD k []))) := by
  unfold strCellsOf
  rw [List.getElem?_toArray, List.getElem?_map, List.getElem?_eq_getElem h, List.getD_eq_getElem?_getD, List.getElem?_eq_getElem h]
  rfl
theorem bStr_list (l : List UInt8) : (bStr l).data.toList = l := rfl

set_option maxRecDepth 100000 in
set_option maxHeartbeats 1000000 in
theorem has_any (ks : List (List UInt8)) (b : Nat) (s : ByteArray) (w : World) (hk : ks.length ≤ 1000) (hc : ∀ j, j < ks.length → w.cell? ⟨b, j, none⟩ = some (.string (bStr (ks.getD j [])))) :
    Calls Tryz.prog 63 #[.slice (some ⟨b, 0, none⟩) ks.length ks.length, .string s] w fun e w' => e = .returned (.bool (decide (s.data.toList ∈ ks))) ∧ w = w' := by
  go_enter Tryz.func63, Tryz.ntmps63
  go_wp2
  go_loop [5] (fun i => ∃ k : Nat, k ≤ ks.length ∧ i = .int .i64 k ∧ ∀ j, j < k → ks.getD j [] ≠ s.data.toList) (fun i => ks.length - (intOf i).toNat)
  case atStart => exact ⟨0, Nat.zero_le _, rfl, fun j h => absurd h (by omega)⟩
  case round =>
    obtain ⟨k, hkk, rfl, hn⟩ := hrel
    have Hn := Lib.hid hn
    clear hn
    by_cases hlt : k < ks.length
    · have hcell := hc k hlt
      have Hk := Lib.hid (show ks.getD k [] ∈ ks by rw [List.getD_eq_getElem?_getD, List.getElem?_eq_getElem hlt]; exact List.getElem_mem hlt)
      clear hc
      generalize hg : ks.getD k [] = x at hcell Hk
      have Hg := Lib.hid hg
      clear hg
      have Hx := Lib.hid (show (bStr x).toList = x by rw [ByteArray.toList_eq]; rfl)
      have Hs := Lib.hid (show s.toList = s.data.toList by rw [ByteArray.toList_eq])
      by_cases he : x = s.data.toList
      · have hq : ((bStr x).toList == s.toList) = true := by rw [Hx.out, Hs.out, he]; simp
        have Hf := Lib.hid (show decide (s.data.toList ∈ ks) = true by rw [← he]; exact decide_eq_true Hk.out)
        clear he
        go_wp2
        go_ret
        exact ⟨ret_bool Hf.out.symm, rfl⟩
      · have hq : ((bStr x).toList == s.toList) = false := by rw [Hx.out, Hs.out]; simp [he]
        have He := Lib.hid he
        clear he
        go_wp2
        go_round
        case rel =>
          refine ⟨k + 1, by omega, by go_num, fun j hj => ?_⟩
          rcases Nat.lt_succ_iff_lt_or_eq.1 hj with h | rfl
          · exact Hn.out j h
          · rw [Hg.out]; exact He.out
        case measure => simp [intOf]; omega
    · have Hf := Lib.hid (show decide (s.data.toList ∈ ks) = false by
        refine decide_eq_false fun h => ?_
        obtain ⟨j, hj, e⟩ := List.mem_iff_getElem.1 h
        exact Hn.out j (by omega) (by rw [List.getD_eq_getElem?_getD, List.getElem?_eq_getElem hj]; exact e))
      go_wp2
      go_ret
      exact ⟨ret_bool Hf.out.symm, rfl⟩

/-- Does a text begin with these bytes at a place? -/
def begins (s : ByteArray) (a : Nat) (t : List UInt8) : Bool := decide ((s.data.toList.drop a).take t.length = t)

set_option maxRecDepth 100000 in
set_option maxHeartbeats 1000000 in
theorem beginsAt_any (s : ByteArray) (a : Nat) (t : List UInt8) (w : World) (hs : s.size ≤ 100000) (ha : a ≤ s.size) (ht : t.length ≤ 1000) :
    Calls Tryz.prog 68 #[.string s, .int .i64 (a : Int), .string (bStr t)] w fun e w' => e = .returned (.bool (begins s a t)) ∧ w = w' := by
  have htl : (bStr t).size = t.length := by rw [← len_list]; rfl
  have Htl := Lib.hid htl
  by_cases hl : t.length ≤ s.size - a
  · have hex : (s.extract a (a + (bStr t).size)).toList = (s.data.toList.drop a).take t.length := by
      rw [ByteArray.toList_eq, extract_list, htl, show a + t.length - a = t.length by omega]
    have hb : (bStr t).toList = t := by rw [ByteArray.toList_eq]; rfl
    have hq : ((s.extract a (a + (bStr t).size)).toList == (bStr t).toList) = begins s a t := by
      rw [hex, hb]; unfold begins; rw [Bool.eq_iff_iff]; simp
    have hz : (bStr t).size ≤ s.size - a := by omega
    have hz2 : a + (bStr t).size ≤ s.size := by omega
    have Hq := Lib.hid hq
    clear htl hex hb hq hl
    generalize begins s a t = bb at Hq
    cases bb with
    | true =>
      have hq := Hq.out
      go_enter Tryz.func68, Tryz.ntmps68
      go_wp2
      go_ret
      exact ⟨rfl, rfl⟩
    | false =>
      have hq := Hq.out
      go_enter Tryz.func68, Tryz.ntmps68
      go_wp2
      go_ret
      exact ⟨rfl, rfl⟩
  · have Hf := Lib.hid (show begins s a t = false by
      unfold begins
      refine decide_eq_false fun h => ?_
      have := congrArg List.length h
      rw [List.length_take, List.length_drop, len_list] at this
      omega)
    have hz : ¬ ((bStr t).size : Int) ≤ (s.size : Int) - (a : Int) := by omega
    clear htl
    go_enter Tryz.func68, Tryz.ntmps68
    go_wp2
    go_ret
    exact ⟨ret_bool Hf.out.symm, rfl⟩

theorem list_two {s : ByteArray} {a : Nat} : ∀ (x y : UInt8), x ≠ 0 → y ≠ 0 → begins s a [x, y] = (bt s a == x.toNat && bt s (a + 1) == y.toNat) := by
  intro x y hx hy
  have hx' : x.toNat ≠ 0 := fun h => hx (UInt8.toNat_inj.1 h)
  have hy' : y.toNat ≠ 0 := fun h => hy (UInt8.toNat_inj.1 h)
  unfold begins bt
  have d0 : s.data.toList[a]? = (s.data.toList.drop a)[0]? := by rw [List.getElem?_drop]; rfl
  have d1 : s.data.toList[a + 1]? = (s.data.toList.drop a)[1]? := by rw [List.getElem?_drop]
  rw [List.getD_eq_getElem?_getD, List.getD_eq_getElem?_getD, d0, d1]
  generalize s.data.toList.drop a = l
  rw [Bool.eq_iff_iff]
  match l with
  | [] => simp; intro h; exact absurd h.symm hx'
  | [u] => simp; intro _ h; exact absurd h.symm hy'
  | u :: v :: r => simp [UInt8.toNat_inj]
theorem list_one {s : ByteArray} {a : Nat} : ∀ (x : UInt8), x ≠ 0 → begins s a [x] = (bt s a == x.toNat) := by
  intro x hx
  have hx' : x.toNat ≠ 0 := fun h => hx (UInt8.toNat_inj.1 h)
  unfold begins bt
  have d0 : s.data.toList[a]? = (s.data.toList.drop a)[0]? := by rw [List.getElem?_drop]; rfl
  rw [List.getD_eq_getElem?_getD, d0]
  generalize s.data.toList.drop a = l
  rw [Bool.eq_iff_iff]
  match l with
  | [] => simp; intro h; exact absurd h.symm hx'
  | u :: r => simp [UInt8.toNat_inj]

theorem str_of_l {o x : ByteArray} (h : o.data.toList = x.data.toList) : o = x := by
  obtain ⟨⟨a⟩⟩ := o
  obtain ⟨⟨b⟩⟩ := x
  simpa using h
/-- The signs that begin at a place, and the piece there. -/
theorem sign_found {s : ByteArray} {a k : Nat} (_ha : a < s.size) (hk : k < 16) (hb : begins s a (sgL.getD k []) = true) (hn : ∀ j, j < k → begins s a (sgL.getD j []) = false) :
    tkErr s a = 0 ∧ (piece s a).tk = ⟨4, bStr (sgL.getD k []), a⟩ := by
  have key : cls (bt s a) = 7 ∧ pieceEnd s a = a + (sgL.getD k []).length ∧ (s.data.toList.drop a).take (sgL.getD k []).length = sgL.getD k [] ∧ (sgL.getD k []).length ≠ 0 := by
    have hb' : (s.data.toList.drop a).take (sgL.getD k []).length = sgL.getD k [] := of_decide_eq_true hb
    have f0 : begins s a [58, 61] = (bt s a == 58 && bt s (a + 1) == 61) := list_two 58 61 (by decide) (by decide)
    have f1 : begins s a [45, 62] = (bt s a == 45 && bt s (a + 1) == 62) := list_two 45 62 (by decide) (by decide)
    have ht : 2 ≤ k → two s a = false := by
      intro h2
      have h0 := hn 0 (by omega)
      have h1 := hn 1 (by omega)
      unfold two
      rw [← f0, ← f1]
      show (begins s a [58, 61] || begins s a [45, 62]) = false
      rw [show begins s a [58, 61] = false from h0, show begins s a [45, 62] = false from h1]; rfl
    have one : ∀ x : UInt8, x ≠ 0 → sgL.getD k [] = [x] → 2 ≤ k → x.toNat ∈ signs → cls (bt s a) = 7 ∧ pieceEnd s a = a + (sgL.getD k []).length ∧ (s.data.toList.drop a).take (sgL.getD k []).length = sgL.getD k [] ∧ (sgL.getD k []).length ≠ 0 := by
      intro x hx e h2 hm
      have hx1 : bt s a = x.toNat := by rw [e, list_one x hx] at hb; simpa using hb
      have h7 : cls (bt s a) = 7 := (cls_sign _ (bt_lt s a)).2 (by rw [hx1]; exact hm)
      refine ⟨h7, ?_, hb', by rw [e]; simp⟩
      unfold pieceEnd
      rw [if_neg (by omega), if_neg (by omega), if_neg (by rw [ht h2]; simp), e]; rfl
    match k, hk with
    | 0, _ =>
      have h2 : two s a = true := by unfold two; rw [← f0, show begins s a [58, 61] = true from hb]; rfl
      have hx1 : bt s a = 58 := by
        have : begins s a [58, 61] = true := hb
        rw [f0] at this; simp at this; exact this.1
      have h7 : cls (bt s a) = 7 := (cls_sign _ (bt_lt s a)).2 (by rw [hx1]; decide)
      exact ⟨h7, by unfold pieceEnd; rw [if_neg (by omega), if_neg (by omega), if_pos ⟨h7, h2⟩]; rfl, hb', by decide⟩
    | 1, _ =>
      have h2 : two s a = true := by unfold two; rw [← f1, show begins s a [45, 62] = true from hb, Bool.or_true]
      have hx1 : bt s a = 45 := by
        have : begins s a [45, 62] = true := hb
        rw [f1] at this; simp at this; exact this.1
      have h7 : cls (bt s a) = 7 := (cls_sign _ (bt_lt s a)).2 (by rw [hx1]; decide)
      exact ⟨h7, by unfold pieceEnd; rw [if_neg (by omega), if_neg (by omega), if_pos ⟨h7, h2⟩]; rfl, hb', by decide⟩
    | 2, _ => exact one 61 (by decide) rfl (by omega) (by decide)
    | 3, _ => exact one 60 (by decide) rfl (by omega) (by decide)
    | 4, _ => exact one 43 (by decide) rfl (by omega) (by decide)
    | 5, _ => exact one 45 (by decide) rfl (by omega) (by decide)
    | 6, _ => exact one 42 (by decide) rfl (by omega) (by decide)
    | 7, _ => exact one 33 (by decide) rfl (by omega) (by decide)
    | 8, _ => exact one 40 (by decide) rfl (by omega) (by decide)
    | 9, _ => exact one 41 (by decide) rfl (by omega) (by decide)
    | 10, _ => exact one 123 (by decide) rfl (by omega) (by decide)
    | 11, _ => exact one 125 (by decide) rfl (by omega) (by decide)
    | 12, _ => exact one 44 (by decide) rfl (by omega) (by decide)
    | 13, _ => exact one 59 (by decide) rfl (by omega) (by decide)
    | 14, _ => exact one 58 (by decide) rfl (by omega) (by decide)
    | 15, _ => exact one 46 (by decide) rfl (by omega) (by decide)
    | n + 16, h => exact absurd h (by omega)
  obtain ⟨h7, hp, hl, h0⟩ := key
  generalize sgL.getD k [] = t at hp hl h0
  have hex : s.extract a (pieceEnd s a) = bStr t := by
    refine str_of_l ?_
    rw [extract_list, hp, show a + t.length - a = t.length by omega, hl]; rfl
  have hb0 : bt (s.extract a (pieceEnd s a)) 0 = bt s a := by
    rw [bt_extract (by omega)]; rfl
  have hk : kindOf (s.extract a (pieceEnd s a)) = (4, 0) := by
    unfold kindOf
    rw [hb0, if_neg (by omega), if_neg (by omega), if_neg (by omega), if_pos h7]
  constructor
  · unfold tkErr
    rw [if_neg (by omega)]
    show (kindOf (s.extract a (pieceEnd s a))).2 = 0
    rw [hk]
  · show (⟨(kindOf (s.extract a (pieceEnd s a))).1, trimT (s.extract a (pieceEnd s a)), a⟩ : Tk) = _
    rw [hk]
    unfold trimT
    rw [hb0, if_neg (by intro h; rw [h] at h7; exact absurd h7 (by decide)), hex]
theorem sign_none {s : ByteArray} {a : Nat} (ha : a < s.size) (h4 : cls (bt s a) ≠ 4) (h6 : cls (bt s a) ≠ 6) (hn : ∀ j, j < 16 → begins s a (sgL.getD j []) = false) : tkErr s a = 4 := by
  have h7 : cls (bt s a) ≠ 7 := by
    intro h
    have hm := (cls_sign _ (bt_lt s a)).1 h
    have no : ∀ j (x : UInt8), j < 16 → x ≠ 0 → sgL.getD j [] = [x] → bt s a ≠ x.toNat := by
      intro j x hj hx e he
      have := hn j hj
      rw [e, list_one x hx, he] at this
      simp at this
    have n2 := no 2 61 (by omega) (by decide) rfl
    have n3 := no 3 60 (by omega) (by decide) rfl
    have n4 := no 4 43 (by omega) (by decide) rfl
    have n5 := no 5 45 (by omega) (by decide) rfl
    have n6 := no 6 42 (by omega) (by decide) rfl
    have n7 := no 7 33 (by omega) (by decide) rfl
    have n8 := no 8 40 (by omega) (by decide) rfl
    have n9 := no 9 41 (by omega) (by decide) rfl
    have n10 := no 10 123 (by omega) (by decide) rfl
    have n11 := no 11 125 (by omega) (by decide) rfl
    have n12 := no 12 44 (by omega) (by decide) rfl
    have n13 := no 13 59 (by omega) (by decide) rfl
    have n14 := no 14 58 (by omega) (by decide) rfl
    have n15 := no 15 46 (by omega) (by decide) rfl
    simp [signs] at hm
    simp at n2 n3 n4 n5 n6 n7 n8 n9 n10 n11 n12 n13 n14 n15
    omega
  unfold tkErr
  split
  · rfl
  · rename_i h3
    show (kindOf (s.extract a (pieceEnd s a))).2 = 4
    have hb0 : bt (s.extract a (pieceEnd s a)) 0 = bt s a := by
      have := lt_pieceEnd ha
      rw [bt_extract (by omega)]; rfl
    unfold kindOf
    rw [hb0, if_neg h3, if_neg h4, if_neg h6, if_neg h7]

/-- What Token answers. -/
def tkVals (t : Tk) : Value := .agg #[.int .u8 (t.kind : Int), .string t.text, .int .i64 (t.pos : Int)]
def tkGot (s : ByteArray) (a : Nat) : Tk := if tkErr s a = 0 then (piece s a).tk else ⟨0, ⟨#[]⟩, 0⟩
def TokenP (s : ByteArray) (a : Nat) (w : World) (e : Ending) (w' : World) : Prop :=
  e = .returned (.tuple #[tkVals (tkGot s a), .int .i64 (tkErr s a : Int)]) ∧ Below w.heap.size w w'
theorem TokenP.good {s : ByteArray} {a : Nat} {w w' : World} {t : Tk} (h : tkErr s a = 0) (ht : (piece s a).tk = t) (hb : Below w.heap.size w w') : TokenP s a w (.returned (.tuple #[tkVals t, .int .i64 0])) w' := by
  refine ⟨?_, hb⟩
  unfold tkGot
  rw [if_pos h, h, ht]; rfl
theorem TokenP.bad {s : ByteArray} {a n : Nat} {k : Int} {w w' : World} (h : tkErr s a = n) (hk : k = (n : Int)) (h0 : n ≠ 0) (hb : Below w.heap.size w w') : TokenP s a w (.returned (.tuple #[.agg #[.int .u8 0, .string ⟨#[]⟩, .int .i64 0], .int .i64 k])) w' := by
  refine ⟨?_, hb⟩
  unfold tkGot
  rw [if_neg (by omega), h, hk]; rfl

/-- Words and numbers: the piece that begins at a place is what letters and digits make. -/
theorem piece_word {s : ByteArray} {a : Nat} (ha : a < s.size) (h : cls (bt s a) = 4 ∨ cls (bt s a) = 6) :
    pieceEnd s a = runEnd aln s a ∧ a < runEnd aln s a ∧ bt (s.extract a (runEnd aln s a)) 0 = bt s a ∧ tkErr s a = (kindOf (s.extract a (runEnd aln s a))).2 ∧ (piece s a).tk = ⟨(kindOf (s.extract a (runEnd aln s a))).1, s.extract a (runEnd aln s a), a⟩ := by
  have hp : pieceEnd s a = runEnd aln s a := by unfold pieceEnd; rw [if_neg (by omega), if_pos h]
  have hlt := lt_pieceEnd ha
  rw [hp] at hlt
  have hb0 : bt (s.extract a (runEnd aln s a)) 0 = bt s a := by rw [bt_extract (by omega)]; rfl
  refine ⟨hp, hlt, hb0, ?_, ?_⟩
  · unfold tkErr
    rw [if_neg (by omega)]
    show (kindOf (s.extract a (pieceEnd s a))).2 = _
    rw [hp]
  · show (⟨(kindOf (s.extract a (pieceEnd s a))).1, trimT (s.extract a (pieceEnd s a)), a⟩ : Tk) = _
    rw [hp]
    unfold trimT
    rw [hb0, if_neg (by intro e; rw [e] at h; rcases h with h | h <;> exact absurd h (by decide))]

end Go.Proofs.YthjnoboceibjjaaGreatDoor.Lx
