/- A text that is renamed, and renamed back: plain lists. -/
import Derived.Test.YtocogbllhmiefaaDoorWalkAI
namespace Go.Proofs.YtocogbllhmiefaaDoor.Lx
open Go Go.Proofs Go.RowKit Go.Shelf

theorem RenT.at_ {old name : ByteArray} : ∀ {l m : List Tk}, RenT old name l m → l.length = m.length ∧ ∀ (i : Nat) (x y : Tk), l[i]? = some x → m[i]? = some y → x.kind = y.kind ∧ y.text = (if x.text.toList = old.toList then name else x.text) ∧ (x.text.toList = old.toList → x.kind = 1)
  | [], [], _ => ⟨rfl, fun i x y h => by simp at h⟩
  | x :: r, y :: q, ⟨h1, h2, h3, h4⟩ => by
    obtain ⟨i1, i2⟩ := RenT.at_ h4
    refine ⟨by simp [i1], fun i x' y' hx hy => ?_⟩
    cases i with
    | zero => simp at hx hy; subst hx; subst hy; exact ⟨h1, h2, h3⟩
    | succ i => exact i2 i x' y' (by simpa using hx) (by simpa using hy)
  | [], _ :: _, h => h.elim
  | _ :: _, [], h => h.elim

theorem col_good2 : ∀ (l : List Pc) (acc : List Tk), (∀ p ∈ l, p.tk.kind ≠ 5 → p.err = 0) → acc.length + (toksOf l).length ≤ 900 → collect l acc = (acc ++ toksOf l, 0, 0) := by
  intro l
  induction l with
  | nil => intro acc _ _; simp [collect, toksOf]
  | cons p r ih =>
    intro acc h hl
    by_cases h5 : p.tk.kind = 5
    · have e : toksOf (p :: r) = toksOf r := by simp [toksOf, h5]
      rw [collect, if_pos h5, e]
      rw [e] at hl
      exact ih acc (fun q hq => h q (List.mem_cons_of_mem _ hq)) hl
    · have e : toksOf (p :: r) = p.tk :: toksOf r := by simp [toksOf, h5]
      rw [e, List.length_cons] at hl
      rw [collect, if_neg h5, if_pos (h p List.mem_cons_self h5), if_neg (by omega), e, ih (acc ++ [p.tk]) (fun q hq => h q (List.mem_cons_of_mem _ hq)) (by simp; omega)]
      simp

theorem places_none {old name : ByteArray} {l : List Tk} (h : ¬ 0 < (placesOf old name l).length) : ∀ x ∈ l, x.text.toList ≠ old.toList := by
  intro x hx e
  apply h
  simp only [placesOf, List.length_map]
  exact List.length_pos_of_mem (List.mem_filter.2 ⟨hx, decide_eq_true e⟩)
theorem none_places {old name : ByteArray} {l : List Tk} (h : ∀ x ∈ l, x.text.toList ≠ old.toList) : placesOf old name l = [] := by
  simp only [placesOf]
  rw [List.filter_eq_nil_iff.2 (fun x hx => by simpa using h x hx)]; rfl

theorem renamed_parts {s old name : ByteArray} (h : renErr s old name = 0) :
    ∃ m, tokens (renamed s old name) = (m, 0, 0) ∧ RenT old name (tokens s).1 m ∧ (∀ x ∈ (tokens s).1, x.text.toList ≠ name.toList) ∧ renErr (renamed s old name) name old = 0 ∧ renamed (renamed s old name) name old = s ∧ (renamed s old name).size ≤ 2500 := by
  obtain ⟨h0, g1, g2, h3, h4, h5⟩ := renErr_parts h
  have ho := Good.of g1
  have hn := Good.of g2
  obtain ⟨t0, tk, _, hne, htl⟩ := tokens_parts h0
  have hrn : renamed s old name = edited s (eds s (placesOf old name (tokens s).1)) := if_pos h
  have hno : ∀ x ∈ (tokens s).1, x.text.toList ≠ name.toList := places_none h4
  generalize ht : renamed s old name = t at *
  have htl2 : t.data.toList = editedFrom s 0 (edsFrom s 0 (placesOf old name (toksOf (piecesFrom s 0)))) := by rw [hrn, tk]; rfl
  obtain ⟨r1, r2, r3⟩ := ren_lex (s := s) (t := t) ho hn s.size 0 0 0 (by omega) (Nat.zero_le _) (by omega) hne (by rw [List.drop_zero]; exact htl2)
  have hsz : t.size ≤ 2500 := by rw [hrn]; exact h5
  have hfine : bad t = none := by
    refine of_fine ?_
    rw [htl2]
    refine fine_edited s (text_ok t0).2 _ 0 0 fun x hx => ?_
    simp only [placesOf, List.mem_map] at hx
    obtain ⟨y, _, rfl⟩ := hx
    exact of_fine hn.fine
  have hte : (textErr t).2 = 0 := by unfold textErr; rw [if_neg (by omega), hfine]
  have hlen := (RenT.at_ r2).1
  have htok : tokens t = (toksOf (piecesFrom t 0), 0, 0) := by
    unfold tokens
    rw [if_pos hte, col_good2 _ [] r1 (by rw [← hlen, ← tk]; simp; omega)]; rfl
  rw [tk] at hno
  have hback := r3 hno
  have hri : right s.size (placesOf old name (toksOf (piecesFrom s 0))) = true := (places_right s old name _ 0 (Nat.le_refl _) hne).1
  obtain ⟨b1, b2⟩ := back_from s t (placesOf old name (toksOf (piecesFrom s 0))) 0 0 0 (by omega) (Nat.zero_le _) (Nat.zero_le _) hri (by rw [List.drop_zero]; exact htl2)
  have hbk : edited t (eds t (placesOf name old (tokens t).1)) = s := by
    refine str_of_list' ?_
    rw [htok]
    show editedFrom t 0 (edsFrom t 0 (placesOf name old (toksOf (piecesFrom t 0)))) = _
    rw [hback]
    have := b2
    rw [Int.neg_zero, List.drop_zero] at this
    exact this
  have hpl : ¬ (placesOf name old (tokens t).1).length = 0 := by
    rw [htok]
    show ¬ (placesOf name old (toksOf (piecesFrom t 0))).length = 0
    rw [hback, List.length_map, edsFrom_length, ← tk]; exact h3
  have hol : ¬ 0 < (placesOf old old (tokens t).1).length := by
    rw [htok]
    show ¬ 0 < (placesOf old old (toksOf (piecesFrom t 0))).length
    rw [none_places (fun y hy => ?_)]
    · simp
    · obtain ⟨i, hi, rfl⟩ := List.mem_iff_getElem.1 hy
      obtain ⟨e1, e2⟩ := RenT.at_ r2
      have hi' : i < (toksOf (piecesFrom s 0)).length := by omega
      obtain ⟨k1, k2, k3⟩ := e2 i _ _ (List.getElem?_eq_getElem hi') (List.getElem?_eq_getElem hi)
      rw [k2]
      split
      · rename_i hx
        have := hno _ (List.getElem_mem hi')
        rw [hx] at this
        exact fun e => this e.symm
      · assumption
  have hre : renErr t name old = 0 := renErr_ok (by rw [htok]) g2 g1 hpl hol (by rw [hbk]; have := (text_ok t0).1; omega)
  refine ⟨_, htok, by rw [tk]; exact r2, by rw [tk]; exact hno, hre, ?_, hsz⟩
  show (if renErr t name old = 0 then edited t (eds t (placesOf name old (tokens t).1)) else ⟨#[]⟩) = s
  rw [if_pos hre]; exact hbk

end Go.Proofs.YtocogbllhmiefaaDoor.Lx
