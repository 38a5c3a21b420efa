/- Arguments that are slices of splices or of tokens, opened; a row's last step where an argument holds memory. -/
import Derived.Test.YthjnoboceibjjaaGreatDoorCardA
import Derived.Test.YthjnoboceibjjaaGreatDoorWalkY
import Derived.Deep.Slices
import Derived.Deep.Fields
import Derived.Carry
namespace Go.Proofs.YthjnoboceibjjaaGreatDoor.Lx
open Go Go.Proofs Go.RowKit Go.ChangeShapes Go.WideShapes Go.ChangeAt Go.WideMaps Go.WideElems Go.Deep

theorem laid_out : laidOutB Tryz.prog = true := by kernel_rfl

/-- A row's last step where an argument holds memory, and no variable is named. -/
theorem post_mem {H : Type} {enc : TypeId × Value → H} {P : Program} {f : Func} {s : ChangeSpec} {apart fresh handsOn again : Bool} {W W' : World} {args : Array Value} {v : Value} {ds : List (DataW H)} {before : List MemPlace}
    (hW : DataW.Whole enc P f.params.toList s.vars apart W args.toList ds [] before) (hv : s.vars = []) (hgv : (s.fn H (ds ++ [])).vars = [])
    (hres : ∀ (b : Nat) (sp : Nat → Bool) (hd : Bool), DataW.TrodAll enc P W' b sp hd f.resultTypes.toList (v.resultList f.resultTypes.size) (s.fn H (ds ++ [])).results [])
    (hargs : ∀ sp : Nat → Bool, (∀ p ∈ before, sp p.block = true) → DataW.TrodAll enc P W' 0 sp true f.params.toList args.toList (s.fn H (ds ++ [])).args before)
    (hb : Below W.heap.size W W')
    (hok : ∀ (j : Nat) (t : TypeId) (r : Value), f.resultTypes[j]? = some t → (v.resultList f.resultTypes.size)[j]? = some r → Value.okWide P W' .any 0 t r) :
    s.post enc P f apart fresh handsOn again W args v W' := by
  have hvars : ∀ sp : Nat → Bool, DataW.TrodVars enc P W' sp s.vars (s.fn H (ds ++ [])).vars [] := fun sp => by rw [hv, hgv]; rfl
  have hlt : ∀ p ∈ before, p.block < W.heap.size := fun p hp => hW.lt p hp
  refine ⟨ds, [], before, [], before, [], hW, hres _ _ _, hargs _ (fun p hp => by simpa using hlt p hp), hvars _, World.keptBut_mono (fun p hp => ⟨hp, .inr (.inl hp)⟩) (hb.frame (· ∈ before)), fun _ => ?_⟩
  obtain ⟨_, _, _, _, _, hz, hn⟩ := hW
  refine ⟨hok, _, _, ([] ++ before) ++ [], ⟨[] ++ before, [], trodAll_append (hargs _ (fun _ _ => rfl)) (hres _ _ _), hvars _, rfl, ?_, ?_⟩, ?_⟩
  · intro b off hp
    have hin : MemPlace.cell b off ∈ before := by simpa using hp
    rw [hb.frozen (hlt _ hin)]
    exact hz b off hin
  · intro ha
    simpa using hn ha
  · intro p hp _
    simpa using hp

/-- An argument that holds memory reads behind the call as before. -/
theorem stays {H : Type} {enc : TypeId × Value → H} {t : TypeId} (hr : Tryz.prog.readableRec t = true) (hrow : t < Tryz.prog.types.size) {W W' : World} {v : Value} {d : DataW H} {ps : List MemPlace}
    (h : DataW.Trod enc Tryz.prog W 0 (fun _ => true) true t v d ps) (hb : Below W.heap.size W W') (hlt : ∀ x ∈ ps, x.block < W.heap.size) (sp : Nat → Bool) (hsp : ∀ x ∈ ps, sp x.block = true) :
    DataW.Trod enc Tryz.prog W' 0 sp true t v d ps :=
  WideElems.Trod_stays laid_out hr hrow h (fun x hx => hb.same (hlt x hx)) hsp

/-- A list out of what is so of each index. -/
theorem list_of {α : Type} (Q : Nat → α → Prop) : ∀ n : Nat, (∀ i, i < n → ∃ x, Q i x) → ∃ l : List α, l.length = n ∧ ∀ i x, l[i]? = some x → Q i x := by
  intro n
  induction n with
  | zero => intro _; exact ⟨[], rfl, fun i x h => by simp at h⟩
  | succ n ih =>
    intro h
    obtain ⟨l, hl, hq⟩ := ih (fun i hi => h i (by omega))
    obtain ⟨x, hx⟩ := h n (by omega)
    refine ⟨l ++ [x], by simp [hl], fun i y hy => ?_⟩
    by_cases hi : i < l.length
    · rw [List.getElem?_append_left hi] at hy; exact hq i y hy
    · have hlt := (List.getElem?_eq_some_iff.1 hy).1
      rw [List.length_append, List.length_singleton] at hlt
      have : i = n := by omega
      subst this
      rw [List.getElem?_append_right (by omega), hl, Nat.sub_self] at hy
      simp at hy
      subst hy; exact hx

theorem cells_flat {α : Type} (f : α → List Value) (n : Nat) (hf : ∀ x, (f x).length = n) : ∀ (l : List α) (j : Nat) (u : Value), (l.flatMap f)[j]? = some u → ∃ (i k : Nat) (x : α), j = i * n + k ∧ k < n ∧ l[i]? = some x ∧ (f x)[k]? = some u := by
  intro l
  induction l with
  | nil => intro j u h; simp at h
  | cons x r ih =>
    intro j u h
    rw [List.flatMap_cons] at h
    by_cases hj : j < n
    · rw [List.getElem?_append_left (by rw [hf]; exact hj)] at h
      exact ⟨0, j, x, by omega, hj, rfl, h⟩
    · rw [List.getElem?_append_right (by rw [hf]; omega), hf] at h
      obtain ⟨i, k, y, h1, h2, h3, h4⟩ := ih _ _ h
      exact ⟨i + 1, k, y, by rw [Nat.add_mul]; omega, h2, by simpa using h3, h4⟩

theorem weight_all {H : Type} {P : Program} {e : TypeId} {B : Nat} : ∀ (l : List (DataW H)), (DataW.weightsAll P e l).all (· ≤ B) = true → ∀ d ∈ l, (d.weights P e).all (· ≤ B) = true := by
  intro l
  induction l with
  | nil => intro _ d h; cases h
  | cons x r ih =>
    intro h d hd
    rw [DataW.weightsAll, List.all_append, Bool.and_eq_true] at h
    rcases List.mem_cons.1 hd with rfl | hd
    · exact h.1
    · exact ih h.2 d hd

theorem under_sps : Tryz.prog.underlying 41 = some (.slice 40) := Tryz.underlying41
theorem sp_one : oneCellFields Tryz.prog (Tryz.prog.fieldsOf 40) = true := by kernel_rfl
theorem sp_size : (Tryz.prog.fieldsOf 40).size = 3 := by kernel_rfl
theorem sp_cells : Tryz.prog.cellsOf 40 = 3 := by kernel_rfl
theorem sp_bytes : Tryz.prog.bytesOf 40 = 32 := by kernel_rfl
theorem sp_f0 : (Tryz.prog.fieldsOf 40)[0]? = some ⟨"From", 3, 0, false, "", "", 0⟩ := by kernel_rfl
theorem sp_f1 : (Tryz.prog.fieldsOf 40)[1]? = some ⟨"To", 3, 1, false, "", "", 8⟩ := by kernel_rfl
theorem sp_f2 : (Tryz.prog.fieldsOf 40)[2]? = some ⟨"Text", 9, 2, false, "", "", 16⟩ := by kernel_rfl
theorem sp_types : (Tryz.prog.fieldsOf 40).toList.map (·.type) = [3, 3, 9] := by kernel_rfl

/-- A struct of one-cell fields in memory: each field's cell, and how it reads. -/
theorem elem_fields {H : Type} {enc : TypeId × Value → H} {P : Program} {w : World} {base : Nat} {spare : Nat → Bool} {held : Bool} {e : TypeId} {fs : Array Field} {n k : Nat} {a : Addr} {cs : List Value} {x : DataW H × List MemPlace}
    (he : P.underlying e = some (.struct fs)) (hone : oneCellFields P fs = true) (hk : k = fs.size) (hc : w.cells? base a k = some cs) (h : DataW.trod enc P w base spare held n e cs = some x) :
    ∃ (ys : List (DataW H × List MemPlace)) (m : Nat), x.1 = .agg (ys.map (·.1)) ∧ ys.length = fs.size ∧ ∀ (j : Nat) (f : Field), fs[j]? = some f → ∃ (v : Value) (y : DataW H × List MemPlace), w.cell? (a.add j) = some v ∧ ys[j]? = some y ∧ DataW.trod enc P w base spare held m f.type [v] = some y := by
  obtain ⟨ys, m, _, hy, _, hyl, hf⟩ := DataW.trod_struct he h
  obtain ⟨_, hcl, hat⟩ := World.cells?_some hc
  refine ⟨ys, m, by rw [hy], hyl, fun j f hj => ?_⟩
  obtain ⟨ho, hc1⟩ := hone_of hone j f hj
  have hjl : j < fs.size := (Array.getElem?_eq_some_iff.1 hj).1
  have hjc : j < cs.length := by omega
  have h1 := hf j f hj
  rw [ho, hc1] at h1
  have h2 : (cs.drop j).take 1 = [cs[j]] := by rw [List.drop_eq_getElem_cons hjc]; rfl
  rw [h2] at h1
  have hys : ys[j]? = some (ys[j]'(by omega)) := List.getElem?_eq_getElem (by omega)
  exact ⟨_, _, (hat j (by omega)).trans (List.getElem?_eq_getElem hjc), hys, h1.trans hys⟩

theorem add_add_ (a : Addr) (i j : Nat) : (a.add i).add j = a.add (i + j) := by
  unfold Addr.add
  by_cases h1 : i = 0 <;> by_cases h2 : j = 0 <;> simp [h1, h2, Nat.add_assoc]

set_option maxRecDepth 100000 in
/-- An argument that is a slice of splices. -/
theorem open_sps {H : Type} {enc : TypeId × Value → H} {W : World} {base : Nat} {v : Value} {d : DataW H} {p : List MemPlace} (hv : Value.okWide Tryz.prog W .any base 41 v)
    (h : DataW.Trod enc Tryz.prog W 0 (fun _ => true) true 41 v d p) (hw : (d.weights Tryz.prog 41).all (· ≤ reachBytes) = true) :
    ∃ (A : Option Addr) (l : List Sp) (c : Nat), v = .slice A l.length c ∧ Src W (.slice A l.length c) l.length (spCells l) ∧ l.length ≤ 140737488355328 ∧ (∀ x ∈ l, x.text.size ≤ 140737488355328) := by
  obtain ⟨a0, n0, c0, rfl⟩ := okWide_slice under_sps hv
  obtain ⟨fuel, hf⟩ := h
  rcases open_slice under_sps hf with ⟨hcs, _⟩ | ⟨a, len, cap, m, n, D, Pl, hcs, _, hl, _, hm, hx, hi⟩
  · have e : Value.slice a0 n0 c0 = .slice none 0 0 := by simpa [Value.cells] using hcs
    rw [e]
    exact ⟨none, [], 0, rfl, .inl ⟨rfl, rfl, rfl⟩, by simp, fun x hx => by cases hx⟩
  · have e : Value.slice a0 n0 c0 = .slice (some a) len cap := by simpa [Value.cells] using hcs
    rw [e]
    have hd : d = .slice ((List.range len).map D) ((List.range (m - len)).map fun j => D (len + j)) := congrArg Prod.fst hx
    rw [hd] at hw
    have hw2 : (((List.range len).map D).length + ((List.range (m - len)).map fun j => D (len + j)).length) * 32 ≤ reachBytes ∧ (DataW.weightsAll Tryz.prog 40 ((List.range len).map D)).all (· ≤ reachBytes) = true := by
      have hu : (DataW.slice ((List.range len).map D) ((List.range (m - len)).map fun j => D (len + j))).weights Tryz.prog 41 = (((List.range len).map D).length + ((List.range (m - len)).map fun j => D (len + j)).length) * Tryz.prog.bytesOf 40 :: (DataW.weightsAll Tryz.prog 40 ((List.range len).map D) ++ DataW.weightsAll Tryz.prog 40 ((List.range (m - len)).map fun j => D (len + j))) := by
        rw [DataW.weights, under_sps]
      rw [hu, List.all_cons, List.all_append, Bool.and_eq_true, Bool.and_eq_true, sp_bytes] at hw
      exact ⟨of_decide_eq_true hw.1, hw.2.1⟩
    obtain ⟨hwl, hwe⟩ := hw2
    rw [List.length_map, List.length_range] at hwl
    have hlen : len ≤ 140737488355328 := by unfold reachBytes at hwl; omega
    have hel : ∀ i, i < len → ∃ x : Sp, (W.cell? (a.add (i * 3)) = some (.int .i64 x.lo) ∧ W.cell? (a.add (i * 3 + 1)) = some (.int .i64 x.hi) ∧ W.cell? (a.add (i * 3 + 2)) = some (.string x.text)) ∧ x.text.size ≤ 140737488355328 := by
      intro i hil
      obtain ⟨cs', hc, ht⟩ := hi i (by have : m = cap := by simpa using hm
                                       omega)
      rw [sp_cells] at hc
      obtain ⟨ys, k, hx1, hyl, hfs⟩ := elem_fields sp_fields sp_one sp_size.symm hc ht
      obtain ⟨v0, y0, c0, g0, t0⟩ := hfs 0 _ sp_f0
      obtain ⟨v1, y1, c1, g1, t1⟩ := hfs 1 _ sp_f1
      obtain ⟨v2, y2, c2, g2, t2⟩ := hfs 2 _ sp_f2
      obtain ⟨n0, e0, _, _⟩ := DataW.trod_int Tryz.underlying3 t0
      obtain ⟨n1, e1, _, _⟩ := DataW.trod_int Tryz.underlying3 t1
      obtain ⟨s2, e2, r2, _⟩ := DataW.trod_string Tryz.underlying9 t2
      obtain rfl : v0 = .int .i64 n0 := by simpa using e0
      obtain rfl : v1 = .int .i64 n1 := by simpa using e1
      obtain rfl : v2 = .string s2 := by simpa using e2
      rw [add_add_] at c0 c1 c2
      refine ⟨⟨n0, n1, s2⟩, ⟨c0, c1, c2⟩, ?_⟩
      have hys : ys = [y0, y1, y2] := by
        match ys, hyl, g0, g1, g2 with
        | [z0, z1, z2], _, g0, g1, g2 =>
          simp at g0 g1 g2
          rw [g0, g1, g2]
        | [], hl, _, _, _ => simp [sp_size] at hl
        | [_], hl, _, _, _ => simp [sp_size] at hl
        | [_, _], hl, _, _, _ => simp [sp_size] at hl
        | _ :: _ :: _ :: _ :: _, hl, _, _, _ => simp [sp_size] at hl
      have hdw := weight_all _ hwe (D i) (List.mem_map.2 ⟨i, by simpa using hil, rfl⟩)
      have hx2 : D i = .agg [y0.1, y1.1, y2.1] := by
        have := hx1
        rw [hys] at this
        exact this
      rw [hx2, DataW.weights, sp_fields] at hdw
      dsimp only at hdw
      rw [sp_types, DataW.weightsEach, DataW.weightsEach, DataW.weightsEach, List.all_append, List.all_append, List.all_append, Bool.and_eq_true, Bool.and_eq_true, Bool.and_eq_true, r2] at hdw
      have h2 := hdw.2.2.1
      rw [DataW.weights] at h2
      simp only [List.all_cons, List.all_nil, Bool.and_true] at h2
      have := of_decide_eq_true h2
      rw [len_list] at this
      unfold reachBytes at this
      show s2.size ≤ _
      omega
    obtain ⟨l, hll, hq⟩ := list_of _ len hel
    subst hll
    refine ⟨some a, l, cap, rfl, .inr ⟨a, cap, rfl, fun j u hu => ?_⟩, hlen, fun x hx => ?_⟩
    · obtain ⟨i, k, x, rfl, hk, hx, hu'⟩ := cells_flat spVals 3 (fun _ => rfl) l j u hu
      obtain ⟨⟨q0, q1, q2⟩, _⟩ := hq i x hx
      rcases (show k = 0 ∨ k = 1 ∨ k = 2 by omega) with rfl | rfl | rfl
      · simp [spVals] at hu'; rw [Nat.add_zero, q0, hu']
      · simp [spVals] at hu'; rw [q1, hu']
      · simp [spVals] at hu'; rw [q2, hu']
    · obtain ⟨i, hi', rfl⟩ := List.mem_iff_getElem.1 hx
      exact (hq i _ (List.getElem?_eq_getElem hi')).2

end Go.Proofs.YthjnoboceibjjaaGreatDoor.Lx
