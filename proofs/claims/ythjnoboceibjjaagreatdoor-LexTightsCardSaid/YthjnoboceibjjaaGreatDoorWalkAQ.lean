/- LexBack: the tokens of the shortest text with any tokens. -/
import Derived.Test.YthjnoboceibjjaaGreatDoorWalkAP
namespace Go.Proofs.YthjnoboceibjjaaGreatDoor.Lx
open Go Go.Proofs Go.RowKit Go.Shelf

/-- A token that comes in, at whatever place it says that it is. -/
structure Ta where
  tk : Tk
  at_ : Int
def taVals (x : Ta) : List Value := [.int .u8 (x.tk.kind : Int), .string x.tk.text, .int .i64 x.at_]
def taCells (l : List Ta) : List Value := l.flatMap taVals
theorem ta_at : ∀ (l : List Ta) (i : Nat) (t : Ta), l[i]? = some t → ∀ j u, (taVals t)[j]? = some u → (taCells l)[i * 3 + j]? = some u := by
  intro l
  induction l with
  | nil => intro i t h; simp at h
  | cons x r ih =>
    intro i t h j u hu
    cases i with
    | zero =>
      simp at h; subst h
      have hj : j < (taVals x).length := (List.getElem?_eq_some_iff.1 hu).1
      show (taVals x ++ taCells r)[0 * 3 + j]? = some u
      rw [Nat.zero_mul, Nat.zero_add, List.getElem?_append_left hj]; exact hu
    | succ i =>
      show (taVals x ++ taCells r)[(i + 1) * 3 + j]? = some u
      rw [List.getElem?_append_right (by simp [taVals]; omega), show (i + 1) * 3 + j - (taVals x).length = i * 3 + j by simp [taVals]; omega]
      exact ih i t (by simpa using h) j u hu
theorem taCells_len : ∀ l : List Ta, (taCells l).length = l.length * 3 := by
  intro l
  induction l with
  | nil => rfl
  | cons x r ih => show (taVals x ++ taCells r).length = _; rw [List.length_append, ih]; simp [taVals]; omega
theorem taCells_one (l : List Ta) : ∀ u ∈ taCells l, u.oneCell' = true := by
  intro u hu
  simp only [taCells, List.mem_flatMap] at hu
  obtain ⟨x, _, hx⟩ := hu
  simp [taVals] at hx
  rcases hx with rfl | rfl | rfl <;> rfl
theorem SlTw.of_src {W : World} {v : Value} {l : List Ta} (h : Src W v l.length (taCells l)) : SlTw W v (l.map Ta.tk) := by
  rcases h with ⟨rfl, h0, _⟩ | ⟨ad, c, rfl, h⟩
  · exact ⟨none, 0, by rw [List.length_map, h0], fun h1 => absurd h1 (by rw [List.length_map]; omega)⟩
  · refine ⟨_, c, by rw [List.length_map], fun h0 => ?_⟩
    rw [List.length_map] at h0
    have hat := ta_at l
    have h00 := h 0 _ (hat 0 _ (List.getElem?_eq_getElem h0) 0 _ rfl)
    obtain ⟨hs, hb⟩ := cell_plain h00
    obtain ⟨b, off, sp⟩ := ad
    have hsp : sp = none := hs
    subst hsp
    refine ⟨b, off, rfl, hb, fun i t ht => ?_⟩
    rw [List.getElem?_map] at ht
    cases hl : l[i]? with
    | none => rw [hl] at ht; cases ht
    | some x =>
      rw [hl] at ht
      injection ht with ht
      subst ht
      have g := fun j u hj => h (i * 3 + j) u (hat i x hl j u hj)
      simp only [Lib.addr_add] at g
      exact ⟨g 0 _ rfl, g 1 _ rfl, _, g 2 _ rfl⟩

/-- Tokens that the law looks at. -/
def shortB (l : List Tk) : Bool := l.all (fun x => decide (x.text.size ≤ 100)) && decide (l.length ≤ 1000)

set_option maxRecDepth 100000 in
set_option maxHeartbeats 4000000 in
theorem short_any (a : Value) (l : List Tk) (w : World) (ha : SlTw w a l) (hl : l.length ≤ 140737488355328) (ht : ∀ x ∈ l, x.text.size ≤ 140737488355328) :
    Calls Tryz.prog 4 #[a] w fun e w' => e = .returned (.bool (shortB l)) ∧ w = w' := by
  obtain ⟨A, ca, rfl, hA⟩ := ha
  go_enter Tryz.func4, Tryz.ntmps4
  go_wp2
  go_loop [3] (fun i => ∃ k : Nat, k ≤ l.length ∧ i = .int .i64 k ∧ ∀ j x, j < k → l[j]? = some x → x.text.size ≤ 100) (fun i => l.length - (intOf i).toNat)
  case atStart => exact ⟨0, Nat.zero_le _, rfl, fun j x h => absurd h (by omega)⟩
  case round =>
    obtain ⟨k, hk, rfl, hj⟩ := hrel
    have Hj := Lib.hid hj
    clear hj
    by_cases hlt : k < l.length
    · obtain ⟨b1, o1, rfl, hb1, hc1⟩ := hA (by omega)
      obtain ⟨_, p2, _⟩ := hc1 k _ (List.getElem?_eq_getElem hlt)
      have htx := ht _ (List.getElem_mem hlt)
      have Hx := Lib.hid (List.getElem?_eq_getElem hlt)
      have Hm := Lib.hid (List.getElem_mem hlt)
      clear hc1 hA
      generalize l[k] = x at p2 htx Hx Hm
      by_cases h1 : 100 < x.text.size
      · have Hf := Lib.hid (show shortB l = false by
          unfold shortB
          rw [List.all_eq_false.2 ⟨x, Hm.out, by simp; omega⟩]; rfl)
        go_wp2
        go_ret
        exact ⟨ret_bool Hf.out.symm, rfl⟩
      · have Hs := Lib.hid (show ∀ j y, j < k + 1 → l[j]? = some y → y.text.size ≤ 100 from fun j y hj hy => by
          rcases Nat.lt_succ_iff_lt_or_eq.1 hj with h | rfl
          · exact Hj.out j y h hy
          · rw [Hx.out] at hy; injection hy with hy; subst hy; omega)
        go_wp2
        go_round
        case rel => exact ⟨k + 1, by omega, by go_num, Hs.out⟩
        case measure => simp [intOf]; omega
    · have Hf := Lib.hid (show shortB l = decide (l.length ≤ 1000) by
        unfold shortB
        rw [List.all_eq_true.2 (fun x hx => by
          obtain ⟨j, hj, rfl⟩ := List.mem_iff_getElem.1 hx
          exact decide_eq_true (Hj.out j _ (by omega) (List.getElem?_eq_getElem hj)))]
        rfl)
      go_wp2
      go_ret
      exact ⟨by rw [Hf.out]; simp; omega, rfl⟩

theorem Rise.at_ : ∀ {l : List Tk} {a : Nat}, Rise a l → ∀ (i : Nat) (x y : Tk), l[i]? = some x → l[i + 1]? = some y → x.pos < y.pos
  | x :: r, a, ⟨h1, h2⟩, i, u, v, hu, hv => by
    cases i with
    | zero =>
      simp at hu
      subst hu
      cases r with
      | nil => simp at hv
      | cons z q => simp at hv; subst hv; exact h2.1
    | succ i => exact Rise.at_ h2 i u v (by simpa using hu) (by simpa using hv)
  | [], _, _, i, u, v, hu, _ => by simp at hu

theorem app_list2 (o x : ByteArray) : (o ++ x).data.toList = o.data.toList ++ x.data.toList := by simp [ByteArray.data_append]
theorem lexBack_less {l : List Tk} {t : ByteArray} (ht : t = ⟨(tightL l).toArray⟩) (hg : ∀ x ∈ l, goodTk x = true) {i : Nat} (hi : i < t.size) (hb : bt t i = 32) :
    (tokens (t.extract 0 i ++ t.extract (i + 1) t.size)).2.2 = 0 → ¬ SameB l (tokens (t.extract 0 i ++ t.extract (i + 1) t.size)).1 := by
  have htl : t.data.toList = tightL l := by rw [ht]
  have hlen : (tightL l).length = t.size := by rw [← htl, len_list]
  refine tokens_less (i := i) hg ?_ ?_
  · have h1 : (tightL l)[i]? = some ((tightL l)[i]'(by omega)) := List.getElem?_eq_getElem (by omega)
    have h2 : bt t i = ((tightL l)[i]'(by omega)).toNat := by
      unfold bt
      rw [List.getD_eq_getElem?_getD, htl, h1]; rfl
    rw [h1]
    rw [hb] at h2
    exact congrArg some (UInt8.toNat_inj.1 h2.symm)
  · rw [app_list2, extract_list, Lib.extract_to_end, htl]
    simp

end Go.Proofs.YthjnoboceibjjaaGreatDoor.Lx
