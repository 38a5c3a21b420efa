/- An argument that is a slice of tokens, opened. -/
import Derived.Test.YthjnoboceibjjaaGreatDoorCardS
import Derived.Test.YthjnoboceibjjaaGreatDoorWalkAQ
namespace Go.Proofs.YthjnoboceibjjaaGreatDoor.Lx
open Go Go.Proofs Go.RowKit Go.ChangeShapes Go.WideShapes Go.ChangeAt Go.WideMaps Go.WideElems Go.Deep

theorem under_tks : Tryz.prog.underlying 22 = some (.slice 33) := Tryz.underlying22
theorem tk_one : oneCellFields Tryz.prog (Tryz.prog.fieldsOf 33) = true := by kernel_rfl
theorem tk_size : (Tryz.prog.fieldsOf 33).size = 3 := by kernel_rfl
theorem tk_cells : Tryz.prog.cellsOf 33 = 3 := by kernel_rfl
theorem tk_bytes : Tryz.prog.bytesOf 33 = 32 := by kernel_rfl
theorem tk_f0 : (Tryz.prog.fieldsOf 33)[0]? = some ⟨"Kind", 5, 0, false, "", "", 0⟩ := by kernel_rfl
theorem tk_f1 : (Tryz.prog.fieldsOf 33)[1]? = some ⟨"Text", 9, 1, false, "", "", 8⟩ := by kernel_rfl
theorem tk_f2 : (Tryz.prog.fieldsOf 33)[2]? = some ⟨"At", 3, 2, false, "", "", 24⟩ := by kernel_rfl
theorem tk_types : (Tryz.prog.fieldsOf 33).toList.map (·.type) = [5, 9, 3] := by kernel_rfl
theorem byte_nat {n : Int} (h : (Lit.int .u8 n).wf = true) : ∃ k : Nat, n = k := by
  have h' : 0 ≤ n := by
    unfold Lit.wf at h
    rw [Bool.and_eq_true] at h
    exact Int.le_trans (by decide) (of_decide_eq_true h.1)
  exact ⟨n.toNat, by omega⟩

set_option maxRecDepth 100000 in
/-- An argument that is a slice of tokens. -/
theorem open_tks {H : Type} {enc : TypeId × Value → H} {W : World} {base : Nat} {v : Value} {d : DataW H} {p : List MemPlace} (hv : Value.okWide Tryz.prog W .any base 22 v)
    (h : DataW.Trod enc Tryz.prog W 0 (fun _ => true) true 22 v d p) (hw : (d.weights Tryz.prog 22).all (· ≤ reachBytes) = true) :
    ∃ (A : Option Addr) (l : List Ta) (c : Nat), v = .slice A l.length c ∧ Src W (.slice A l.length c) l.length (taCells l) ∧ l.length ≤ 140737488355328 ∧ (∀ x ∈ l, x.tk.text.size ≤ 140737488355328) := by
  obtain ⟨a0, n0, c0, rfl⟩ := okWide_slice under_tks hv
  obtain ⟨fuel, hf⟩ := h
  rcases open_slice under_tks hf with ⟨hcs, _⟩ | ⟨a, len, cap, m, n, D, Pl, hcs, _, hl, _, hm, hx, hi⟩
  · have e : Value.slice a0 n0 c0 = .slice none 0 0 := by simpa [Value.cells] using hcs
    rw [e]
    exact ⟨none, [], 0, rfl, .inl ⟨rfl, rfl, rfl⟩, by simp, fun x hx => by cases hx⟩
  · have e : Value.slice a0 n0 c0 = .slice (some a) len cap := by simpa [Value.cells] using hcs
    rw [e]
    have hd : d = .slice ((List.range len).map D) ((List.range (m - len)).map fun j => D (len + j)) := congrArg Prod.fst hx
    rw [hd] at hw
    have hw2 : (((List.range len).map D).length + ((List.range (m - len)).map fun j => D (len + j)).length) * 32 ≤ reachBytes ∧ (DataW.weightsAll Tryz.prog 33 ((List.range len).map D)).all (· ≤ reachBytes) = true := by
      have hu : (DataW.slice ((List.range len).map D) ((List.range (m - len)).map fun j => D (len + j))).weights Tryz.prog 22 = (((List.range len).map D).length + ((List.range (m - len)).map fun j => D (len + j)).length) * Tryz.prog.bytesOf 33 :: (DataW.weightsAll Tryz.prog 33 ((List.range len).map D) ++ DataW.weightsAll Tryz.prog 33 ((List.range (m - len)).map fun j => D (len + j))) := by
        rw [DataW.weights, under_tks]
      rw [hu, List.all_cons, List.all_append, Bool.and_eq_true, Bool.and_eq_true, tk_bytes] at hw
      exact ⟨of_decide_eq_true hw.1, hw.2.1⟩
    obtain ⟨hwl, hwe⟩ := hw2
    rw [List.length_map, List.length_range] at hwl
    have hlen : len ≤ 140737488355328 := by unfold reachBytes at hwl; omega
    have hel : ∀ i, i < len → ∃ x : Ta, (W.cell? (a.add (i * 3)) = some (.int .u8 (x.tk.kind : Int)) ∧ W.cell? (a.add (i * 3 + 1)) = some (.string x.tk.text) ∧ W.cell? (a.add (i * 3 + 2)) = some (.int .i64 x.at_)) ∧ x.tk.text.size ≤ 140737488355328 := by
      intro i hil
      obtain ⟨cs', hc, ht⟩ := hi i (by have : m = cap := by simpa using hm
                                       omega)
      rw [tk_cells] at hc
      obtain ⟨ys, k, hx1, hyl, hfs⟩ := elem_fields tk_fields tk_one tk_size.symm hc ht
      obtain ⟨v0, y0, c0, g0, t0⟩ := hfs 0 _ tk_f0
      obtain ⟨v1, y1, c1, g1, t1⟩ := hfs 1 _ tk_f1
      obtain ⟨v2, y2, c2, g2, t2⟩ := hfs 2 _ tk_f2
      obtain ⟨n0, e0, r0, w0⟩ := DataW.trod_int Tryz.underlying5 t0
      obtain ⟨s1, e1, r1, _⟩ := DataW.trod_string Tryz.underlying9 t1
      obtain ⟨n2, e2, _, _⟩ := DataW.trod_int Tryz.underlying3 t2
      obtain ⟨kk, rfl⟩ := byte_nat w0
      obtain rfl : v0 = .int .u8 (kk : Int) := by simpa using e0
      obtain rfl : v1 = .string s1 := by simpa using e1
      obtain rfl : v2 = .int .i64 n2 := by simpa using e2
      rw [add_add_] at c0 c1 c2
      refine ⟨⟨⟨kk, s1, 0⟩, n2⟩, ⟨c0, c1, c2⟩, ?_⟩
      have hys : ys = [y0, y1, y2] := by
        match ys, hyl, g0, g1, g2 with
        | [z0, z1, z2], _, g0, g1, g2 =>
          simp at g0 g1 g2
          rw [g0, g1, g2]
        | [], hl, _, _, _ => simp [tk_size] at hl
        | [_], hl, _, _, _ => simp [tk_size] at hl
        | [_, _], hl, _, _, _ => simp [tk_size] at hl
        | _ :: _ :: _ :: _ :: _, hl, _, _, _ => simp [tk_size] at hl
      have hdw := weight_all _ hwe (D i) (List.mem_map.2 ⟨i, by simpa using hil, rfl⟩)
      have hx2 : D i = .agg [y0.1, y1.1, y2.1] := by
        have := hx1
        rw [hys] at this
        exact this
      rw [hx2, DataW.weights, tk_fields] at hdw
      dsimp only at hdw
      rw [tk_types, DataW.weightsEach, DataW.weightsEach, DataW.weightsEach, List.all_append, List.all_append, List.all_append, Bool.and_eq_true, Bool.and_eq_true, Bool.and_eq_true, r1] at hdw
      have h2 := hdw.2.1
      rw [DataW.weights] at h2
      simp only [List.all_cons, List.all_nil, Bool.and_true] at h2
      have := of_decide_eq_true h2
      rw [len_list] at this
      unfold reachBytes at this
      show s1.size ≤ _
      omega
    obtain ⟨l, hll, hq⟩ := list_of _ len hel
    subst hll
    refine ⟨some a, l, cap, rfl, .inr ⟨a, cap, rfl, fun j u hu => ?_⟩, hlen, fun x hx => ?_⟩
    · obtain ⟨i, k, x, rfl, hk, hx, hu'⟩ := cells_flat taVals 3 (fun _ => rfl) l j u hu
      obtain ⟨⟨q0, q1, q2⟩, _⟩ := hq i x hx
      rcases (show k = 0 ∨ k = 1 ∨ k = 2 by omega) with rfl | rfl | rfl
      · simp [taVals] at hu'; rw [Nat.add_zero, q0, hu']
      · simp [taVals] at hu'; rw [q1, hu']
      · simp [taVals] at hu'; rw [q2, hu']
    · obtain ⟨i, hi', rfl⟩ := List.mem_iff_getElem.1 hx
      exact (hq i _ (List.getElem?_eq_getElem hi')).2

end Go.Proofs.YthjnoboceibjjaaGreatDoor.Lx
