/- What Read reads of a text, as a plain function; it reads the text of a right arena back. -/
import Derived.Test.YtoncdnelacolaaaGreatDoorASpecJ
import Derived.Test.YtoncdnelacolaaaGreatDoorASpecK
import Derived.Lib.Split
import Derived.Lib.IndexLaws
import Derived.Lib.Strings
namespace Go.Proofs.YtoncdnelacolaaaGreatDoor.Ar
open Go

theorem index_no {s t : List UInt8} {c : UInt8} (h : c ∉ s) : Lib.index s (c :: t) = -1 :=
  Lib.index_none fun j _ => by
    cases ho : Lib.occAt s (c :: t) j
    · rfl
    · exact absurd (List.mem_of_getElem? (Lib.occAt_head rfl ho)) h
theorem index_pre {p r t : List UInt8} {c : UInt8} (h : c ∉ p) : Lib.index (p ++ (c :: t) ++ r) (c :: t) = (p.length : Int) := by
  refine Lib.index_first (by simp) ?_ (fun j hj => ?_)
  · rw [Lib.occAt_iff_take _ _ _ (by simp), List.append_assoc, List.drop_left, List.take_left]
    simp
  · cases ho : Lib.occAt (p ++ (c :: t) ++ r) (c :: t) j
    · rfl
    · have h9 := Lib.occAt_head rfl ho
      rw [List.append_assoc, List.getElem?_append_left hj] at h9
      exact absurd (List.mem_of_getElem? h9) h
theorem cut_pre {p r t : List UInt8} {c : UInt8} (h : c ∉ p) : Lib.cut (p ++ (c :: t) ++ r) (c :: t) = (p, r, true) := by
  unfold Lib.cut
  rw [index_pre h, if_pos (by omega), Int.toNat_natCast]
  refine Prod.ext ?_ (Prod.ext ?_ rfl)
  · show List.take p.length (p ++ (c :: t) ++ r) = p
    rw [List.append_assoc, List.take_left]
  · show List.drop (p.length + (c :: t).length) (p ++ (c :: t) ++ r) = r
    rw [← List.length_append, List.drop_left]
theorem cut_none {s t : List UInt8} {c : UInt8} (h : c ∉ s) : Lib.cut s (c :: t) = (s, [], false) := by
  unfold Lib.cut
  rw [index_no h, if_neg (by omega)]
theorem join_two (x y : List UInt8) (r : List (List UInt8)) (sep : List UInt8) : Lib.join (x :: y :: r) sep = x ++ sep ++ Lib.join (y :: r) sep := by
  rw [Lib.join_cons, Lib.join_cons]
  simp [Lib.joinTail, List.append_assoc]
theorem splitK_join (c : UInt8) (t : List UInt8) : ∀ (r : List (List UInt8)) (x : List UInt8) (k : Nat), r.length ≤ k → (∀ y ∈ x :: r, c ∉ y) → Lib.splitK (c :: t) 0 k (Lib.join (x :: r) (c :: t)) = x :: r
  | [], x, k, _, h => by
    rw [Lib.join_one]
    cases k with
    | zero => rfl
    | succ k => rw [Lib.splitK, index_no (h x List.mem_cons_self)]; rfl
  | y :: r, x, k, hk, h => by
    obtain ⟨k, rfl⟩ : ∃ j, k = j + 1 := ⟨k - 1, by simp at hk; omega⟩
    have hi : Lib.index (x ++ (c :: t) ++ Lib.join (y :: r) (c :: t)) (c :: t) = (x.length : Int) := index_pre (h x List.mem_cons_self)
    have hne : ((x.length : Int) == -1) = false := by rw [beq_eq_false_iff_ne]; omega
    rw [join_two, Lib.splitK, hi, hne]
    simp only [Bool.false_eq_true, if_false]
    rw [Int.toNat_natCast, Nat.add_zero]
    have e1 : List.take x.length (x ++ (c :: t) ++ Lib.join (y :: r) (c :: t)) = x := by rw [List.append_assoc, List.take_left]
    have e2 : List.drop (x.length + (c :: t).length) (x ++ (c :: t) ++ Lib.join (y :: r) (c :: t)) = Lib.join (y :: r) (c :: t) := by rw [← List.length_append, List.drop_left]
    rw [e1, e2, splitK_join c t r y k (by simp at hk; omega) (fun z hz => h z (List.mem_cons_of_mem _ hz))]
theorem countF_join (c : UInt8) (t : List UInt8) : ∀ (r : List (List UInt8)) (x : List UInt8) (f : Nat), r.length + 1 ≤ f → (∀ y ∈ x :: r, c ∉ y) → Lib.countFrom (c :: t) f (Lib.join (x :: r) (c :: t)) = r.length
  | [], x, f, hf, h => by
    obtain ⟨f, rfl⟩ : ∃ j, f = j + 1 := ⟨f - 1, by omega⟩
    rw [Lib.join_one, Lib.countFrom, index_no (h x List.mem_cons_self)]; rfl
  | y :: r, x, f, hf, h => by
    obtain ⟨f, rfl⟩ : ∃ j, f = j + 1 := ⟨f - 1, by omega⟩
    have hi : Lib.index (x ++ (c :: t) ++ Lib.join (y :: r) (c :: t)) (c :: t) = (x.length : Int) := index_pre (h x List.mem_cons_self)
    have hne : ((x.length : Int) == -1) = false := by rw [beq_eq_false_iff_ne]; omega
    rw [join_two, Lib.countFrom, hi, hne]
    simp only [Bool.false_eq_true, if_false]
    rw [Int.toNat_natCast]
    have e2 : List.drop (x.length + (c :: t).length) (x ++ (c :: t) ++ Lib.join (y :: r) (c :: t)) = Lib.join (y :: r) (c :: t) := by rw [← List.length_append, List.drop_left]
    rw [e2, countF_join c t r y f (by simp at hf; omega) (fun z hz => h z (List.mem_cons_of_mem _ hz)), List.length_cons]
    omega
theorem join_long (c : UInt8) (t : List UInt8) : ∀ (r : List (List UInt8)) (x : List UInt8), r.length ≤ (Lib.join (x :: r) (c :: t)).length
  | [], x => by simp
  | y :: r, x => by
    have := join_long c t r y
    rw [join_two]; simp at this ⊢; omega
theorem split_join (c : UInt8) (t : List UInt8) (x : List UInt8) (r : List (List UInt8)) (h : ∀ y ∈ x :: r, c ∉ y) : Lib.split (Lib.join (x :: r) (c :: t)) (c :: t) = x :: r := by
  unfold Lib.split Lib.count
  rw [countF_join c t r x _ (by have := join_long c t r x; omega) h]
  exact splitK_join c t r x _ (Nat.le_refl _) h

/-- The base type, the type, the arena that a text says. -/
def baseL (s : List UInt8) : Bs := ⟨decide ((Lib.cut s [32]).1 = [99, 101, 108, 108]), numI (Lib.cut s [32]).2.1⟩
def typeL (s : List UInt8) : Ty :=
  if (Lib.cut (Lib.trimPrefix s [40]) [41, 32, 45, 62, 32]).2.2 = true then ⟨(Lib.split (Lib.cut (Lib.trimPrefix s [40]) [41, 32, 45, 62, 32]).1 [44, 32]).map baseL, baseL (Lib.cut (Lib.trimPrefix s [40]) [41, 32, 45, 62, 32]).2.1⟩ else ⟨[], baseL s⟩
def partsL (s : List UInt8) : List (List UInt8) := Lib.split (Lib.trimSuffix s [59, 32, 106, 117, 109, 112, 115]) [59, 32]
def arenaL (s : List UInt8) : Ar := ⟨((partsL s).drop 1).map typeL, baseL ((partsL s).getD 0 []), Lib.hasSuffix s [59, 32, 106, 117, 109, 112, 115]⟩

/-- Bytes that stand in texts of base types. -/
def isBase (c : UInt8) : Bool := isDig c || c == 32 || (decide (97 ≤ c.toNat) && decide (c.toNat ≤ 122))
theorem baseT_dec {b : Bs} (h : badB b = false) : baseT b = (if b.cell then [99, 101, 108, 108] else [105, 110, 116]) ++ 32 :: Lib.decDigits b.n.toNat := by
  obtain ⟨N, h1, h2, h3⟩ := badB_n h
  unfold baseT
  rw [itoa_dec (by omega)]
  split <;> rfl
theorem dig_base {c : UInt8} (h : isDig c = true) : isBase c = true := by unfold isBase; rw [h]; rfl
theorem baseT_chars {b : Bs} (h : badB b = false) : ∀ c ∈ baseT b, isBase c = true := by
  rw [baseT_dec h]
  intro c hc
  rcases List.mem_append.1 hc with h1 | h1
  · split at h1
    · have : ∀ c ∈ ([99, 101, 108, 108] : List UInt8), isBase c = true := by decide
      exact this c h1
    · have : ∀ c ∈ ([105, 110, 116] : List UInt8), isBase c = true := by decide
      exact this c h1
  · rcases List.mem_cons.1 h1 with rfl | h1
    · rfl
    · exact dig_base (dec_dig _ c h1)
theorem base_not {l : List UInt8} (h : ∀ c ∈ l, isBase c = true) {x : UInt8} (hx : isBase x = false) : x ∉ l := fun hm => by rw [h x hm] at hx; cases hx
theorem baseL_text {b : Bs} (h : badB b = false) : baseL (baseT b) = b := by
  obtain ⟨N, h1, h2, h3⟩ := badB_n h
  have hc : ∀ p : List UInt8, 32 ∉ p → Lib.cut (p ++ 32 :: Lib.decDigits b.n.toNat) [32] = (p, Lib.decDigits b.n.toNat, true) := fun p hp => cut_hit p _ 32 hp
  have hn : numI (Lib.decDigits b.n.toNat) = b.n := by rw [numI_dec (by omega)]; omega
  unfold baseL
  rw [baseT_dec h]
  obtain ⟨cl, n⟩ := b
  cases cl
  · simp only [Bool.false_eq_true, if_false]
    rw [hc _ (by decide), hn]
    rfl
  · simp only [if_true]
    rw [hc _ (by decide), hn]
    rfl
theorem bases_map {l : List Bs} (h : ∀ b ∈ l, badB b = false) : (l.map baseT).map baseL = l := by
  rw [List.map_map]
  calc l.map (baseL ∘ baseT) = l.map id := List.map_congr_left (fun b hb => baseL_text (h b hb))
    _ = l := List.map_id l
/-- The text of params has no bracket. -/
theorem join_chars {xs : List (List UInt8)} {sep : List UInt8} {x : UInt8} (h : ∀ y ∈ xs, x ∉ y) (hs : x ∉ sep) : x ∉ Lib.join xs sep := by
  cases xs with
  | nil => simp [Lib.join_nil]
  | cons y r =>
    rw [Lib.join_cons]
    intro hm
    rcases List.mem_append.1 hm with h1 | h1
    · exact h y List.mem_cons_self h1
    · unfold Lib.joinTail at h1
      obtain ⟨z, hz, hx⟩ := List.mem_flatten.1 h1
      obtain ⟨q, hq, rfl⟩ := List.mem_map.1 hz
      rcases List.mem_append.1 hx with h2 | h2
      · exact hs h2
      · exact h q (List.mem_cons_of_mem _ hq) h2
theorem typeL_text {t : Ty} (h : badT t = false) : typeL (typeT t) = t := by
  obtain ⟨hr, hp⟩ := badT_parts h
  by_cases hn : t.params = []
  · have ht : typeT t = baseT t.result := by unfold typeT; rw [if_pos hn]
    have hpre : Lib.trimPrefix (baseT t.result) [40] = baseT t.result := by
      unfold Lib.trimPrefix Lib.hasPrefix
      rw [baseT_dec hr]
      cases t.result.cell <;> rfl
    unfold typeL
    rw [ht, hpre, cut_none (base_not (baseT_chars hr) rfl), if_neg (by simp), baseL_text hr]
    obtain ⟨ps, r⟩ := t
    simp at hn; subst hn; rfl
  · have ht : typeT t = [40] ++ (Lib.join (t.params.map baseT) [44, 32] ++ (41 :: [32, 45, 62, 32]) ++ baseT t.result) := by
      unfold typeT; rw [if_neg hn]; simp
    have hpre : Lib.trimPrefix (typeT t) [40] = Lib.join (t.params.map baseT) [44, 32] ++ (41 :: [32, 45, 62, 32]) ++ baseT t.result := by
      rw [ht]; rfl
    have hj : (41 : UInt8) ∉ Lib.join (t.params.map baseT) [44, 32] := join_chars (fun y hy => by
      obtain ⟨b, hb, rfl⟩ := List.mem_map.1 hy
      exact base_not (baseT_chars (hp b hb)) rfl) (by decide)
    have hsp : Lib.split (Lib.join (t.params.map baseT) [44, 32]) [44, 32] = t.params.map baseT := by
      obtain ⟨x, r, hps⟩ : ∃ x r, t.params.map baseT = x :: r := by
        cases hq : t.params with
        | nil => exact absurd hq hn
        | cons b r => exact ⟨_, _, rfl⟩
      have h59 : ∀ y ∈ t.params.map baseT, (44 : UInt8) ∉ y := fun y hy => by
        obtain ⟨b, hb, rfl⟩ := List.mem_map.1 hy
        exact base_not (baseT_chars (hp b hb)) rfl
      rw [hps] at h59 ⊢
      exact split_join 44 [32] x r h59
    unfold typeL
    rw [hpre, cut_pre hj, if_pos rfl]
    simp only
    rw [hsp, bases_map hp, baseL_text hr]
theorem types_map {l : List Ty} (h : ∀ t ∈ l, badT t = false) : (l.map typeT).map typeL = l := by
  rw [List.map_map]
  calc l.map (typeL ∘ typeT) = l.map id := List.map_congr_left (fun t ht => typeL_text (h t ht))
    _ = l := List.map_id l
/-- A text that ends with a digit. -/
def EndDig (s : List UInt8) : Prop := ∃ p c, s = p ++ [c] ∧ isDig c = true
theorem endDig_app {s : List UInt8} (p : List UInt8) (h : EndDig s) : EndDig (p ++ s) := by
  obtain ⟨q, c, rfl, hc⟩ := h
  exact ⟨p ++ q, c, (List.append_assoc ..).symm, hc⟩
theorem endDig_dec (u : Nat) : EndDig (Lib.decDigits u) := by
  rcases List.eq_nil_or_concat (Lib.decDigits u) with h | ⟨r, c, h⟩
  · exact absurd h (dec_ne u)
  · rw [List.concat_eq_append] at h
    exact ⟨r, c, h, dec_dig u c (by rw [h]; simp)⟩
theorem endDig_base {b : Bs} (h : badB b = false) : EndDig (baseT b) := by
  rw [baseT_dec h]
  exact endDig_app _ (endDig_app [32] (endDig_dec _))
theorem endDig_type {t : Ty} (h : badT t = false) : EndDig (typeT t) := by
  obtain ⟨hr, _⟩ := badT_parts h
  unfold typeT
  split
  · exact endDig_base hr
  · exact endDig_app _ (endDig_base hr)
theorem endDig_arW {a : Ar} (h : Right a) : ∀ k, k ≤ a.ids.length → EndDig (arW a k)
  | 0, _ => by rw [arW_zero]; exact endDig_base h.root
  | k + 1, hk => by
    have hx := List.getElem?_eq_getElem (show k < a.ids.length by omega)
    rw [arW_succ hx]
    exact endDig_app _ (endDig_app _ (endDig_type (h.types _ (List.getElem_mem _))))
theorem type_no59 {t : Ty} (h : badT t = false) : (59 : UInt8) ∉ typeT t := by
  obtain ⟨hr, hp⟩ := badT_parts h
  have h1 : (59 : UInt8) ∉ baseT t.result := base_not (baseT_chars hr) rfl
  unfold typeT
  split
  · exact h1
  · have h2 : (59 : UInt8) ∉ Lib.join (t.params.map baseT) [44, 32] := join_chars (fun y hy => by
      obtain ⟨b, hb, rfl⟩ := List.mem_map.1 hy
      exact base_not (baseT_chars (hp b hb)) rfl) (by decide)
    simp only [List.mem_append, not_or]
    exact ⟨⟨⟨by decide, h2⟩, by decide⟩, h1⟩
/-- Read reads the text of a right arena back. -/
theorem arenaL_text {a : Ar} (h : Right a) : arenaL (arenaT a) = a := by
  have hW := arW_all a
  obtain ⟨p, c, hp, hc⟩ := endDig_arW h a.ids.length (Nat.le_refl _)
  have hsuf : Lib.hasSuffix (arenaT a) [59, 32, 106, 117, 109, 112, 115] = a.jumps ∧ Lib.trimSuffix (arenaT a) [59, 32, 106, 117, 109, 112, 115] = arW a a.ids.length := by
    rw [hW]
    cases hj : a.jumps
    · have hf : Lib.hasSuffix (arW a a.ids.length) [59, 32, 106, 117, 109, 112, 115] = false := by
        cases hh : Lib.hasSuffix (arW a a.ids.length) [59, 32, 106, 117, 109, 112, 115]
        · rfl
        · unfold Lib.hasSuffix at hh
          rw [List.isSuffixOf_iff_suffix] at hh
          obtain ⟨q, hq⟩ := hh
          rw [hp] at hq
          have e : (q ++ [59, 32, 106, 117, 109, 112]) ++ [115] = p ++ [c] := by rw [← hq]; simp
          have e2 := List.append_inj_right' e rfl
          simp at e2
          subst e2
          cases hc
      unfold Lib.trimSuffix
      simp only [Bool.false_eq_true, if_false, List.append_nil, hf]
      exact ⟨trivial, trivial⟩
    · have ht : Lib.hasSuffix (arW a a.ids.length ++ [59, 32, 106, 117, 109, 112, 115]) [59, 32, 106, 117, 109, 112, 115] = true := by
        unfold Lib.hasSuffix
        rw [List.isSuffixOf_iff_suffix]
        exact ⟨_, rfl⟩
      unfold Lib.trimSuffix
      simp only [if_true, ht, List.length_append]
      refine ⟨trivial, ?_⟩
      rw [Nat.add_sub_cancel, List.take_left]
  have hparts : partsL (arenaT a) = baseT a.root :: a.ids.map typeT := by
    unfold partsL
    rw [hsuf.2]
    unfold arW
    rw [List.take_length]
    exact split_join 59 [32] (baseT a.root) (a.ids.map typeT) (fun y hy => by
      rcases List.mem_cons.1 hy with rfl | hy
      · exact base_not (baseT_chars h.root) rfl
      · obtain ⟨t, ht, rfl⟩ := List.mem_map.1 hy
        exact type_no59 (h.types t ht))
  unfold arenaL
  rw [hparts, hsuf.1]
  simp only [List.drop_succ_cons, List.drop_zero, List.getD_cons_zero]
  rw [types_map h.types, baseL_text h.root]

end Go.Proofs.YtoncdnelacolaaaGreatDoor.Ar
