/- An argument that is an arena, or a move, or a pair of numbers, opened; a row's last step where an argument holds memory. -/
import Derived.Test.YtoncdnelacolaaaGreatDoorAWalkC
import Derived.ProofKit
import Derived.LaidMore
import Derived.OpenShut
import Derived.Stop.Joined
import Derived.Stop.LaidErr
import Derived.Lib.LaidTab
import Derived.Below
import Derived.ChangeSame
import Derived.Deep.Slices
import Derived.Deep.Fields
import Derived.Carry
import Derived.Lib.SmallJoins
namespace Go.Proofs.YtoncdnelacolaaaGreatDoor.Ar
open Go Go.Proofs Go.RowKit Go.ChangeShapes Go.WideShapes Go.ChangeAt Go.WideMaps Go.WideElems Go.Deep Lx

theorem laid_out : laidOutB Tryz.prog = true := by kernel_rfl

/-- A row's last step, no variable being named. -/
theorem post_mem {H : Type} {enc : TypeId × Value → H} {P : Program} {f : Func} {s : ChangeSpec} {apart fresh handsOn again : Bool} {W W' : World} {args : Array Value} {v : Value} {ds : List (DataW H)} {before : List MemPlace}
    (hW : DataW.Whole enc P f.params.toList s.vars apart W args.toList ds [] before) (hv : s.vars = []) (hgv : (s.fn H (ds ++ [])).vars = [])
    (hres : ∀ (b : Nat) (sp : Nat → Bool) (hd : Bool), DataW.TrodAll enc P W' b sp hd f.resultTypes.toList (v.resultList f.resultTypes.size) (s.fn H (ds ++ [])).results [])
    (hargs : ∀ sp : Nat → Bool, (∀ p ∈ before, sp p.block = true) → DataW.TrodAll enc P W' 0 sp true f.params.toList args.toList (s.fn H (ds ++ [])).args before)
    (hb : Below W.heap.size W W')
    (hok : ∀ (j : Nat) (t : TypeId) (r : Value), f.resultTypes[j]? = some t → (v.resultList f.resultTypes.size)[j]? = some r → Value.okWide P W' .any 0 t r) :
    s.post enc P f apart fresh handsOn again W args v W' := by
  have hvars : ∀ sp : Nat → Bool, DataW.TrodVars enc P W' sp s.vars (s.fn H (ds ++ [])).vars [] := fun sp => by rw [hv, hgv]; rfl
  have hlt : ∀ p ∈ before, p.block < W.heap.size := fun p hp => hW.lt p hp
  refine ⟨ds, [], before, [], before, [], hW, hres _ _ _, hargs _ (fun p hp => by simpa using hlt p hp), hvars _, World.keptBut_mono (fun p hp => ⟨hp, .inr (.inl hp)⟩) (hb.frame (· ∈ before)), fun _ => ?_⟩
  obtain ⟨_, _, _, _, _, hz, hn⟩ := hW
  refine ⟨hok, _, _, ([] ++ before) ++ [], ⟨[] ++ before, [], trodAll_append (hargs _ (fun _ _ => rfl)) (hres _ _ _), hvars _, rfl, ?_, ?_⟩, ?_⟩
  · intro b off hp
    have hin : MemPlace.cell b off ∈ before := by simpa using hp
    rw [hb.frozen (hlt _ hin)]
    exact hz b off hin
  · intro ha
    simpa using hn ha
  · intro p hp _
    simpa using hp

/-- An argument that holds memory reads behind the call as before. -/
theorem stays {H : Type} {enc : TypeId × Value → H} {t : TypeId} (hr : Tryz.prog.readableRec t = true) (hrow : t < Tryz.prog.types.size) {W W' : World} {v : Value} {d : DataW H} {ps : List MemPlace}
    (h : DataW.Trod enc Tryz.prog W 0 (fun _ => true) true t v d ps) (hb : Below W.heap.size W W') (hlt : ∀ x ∈ ps, x.block < W.heap.size) (sp : Nat → Bool) (hsp : ∀ x ∈ ps, sp x.block = true) :
    DataW.Trod enc Tryz.prog W' 0 sp true t v d ps :=
  WideElems.Trod_stays laid_out hr hrow h (fun x hx => hb.same (hlt x hx)) hsp

theorem list_of {α : Type} (Q : Nat → α → Prop) : ∀ n : Nat, (∀ i, i < n → ∃ x, Q i x) → ∃ l : List α, l.length = n ∧ ∀ i x, l[i]? = some x → Q i x := by
  intro n
  induction n with
  | zero => intro _; exact ⟨[], rfl, fun i x h => by simp at h⟩
  | succ n ih =>
    intro h
    obtain ⟨l, hl, hq⟩ := ih (fun i hi => h i (by omega))
    obtain ⟨x, hx⟩ := h n (by omega)
    refine ⟨l ++ [x], by simp [hl], fun i y hy => ?_⟩
    by_cases hi : i < l.length
    · rw [List.getElem?_append_left hi] at hy; exact hq i y hy
    · have hlt := (List.getElem?_eq_some_iff.1 hy).1
      rw [List.length_append, List.length_singleton] at hlt
      have : i = n := by omega
      subst this
      rw [List.getElem?_append_right (by omega), hl, Nat.sub_self] at hy
      simp at hy
      subst hy; exact hx

theorem weight_all {H : Type} {P : Program} {e : TypeId} {B : Nat} : ∀ (l : List (DataW H)), (DataW.weightsAll P e l).all (· ≤ B) = true → ∀ d ∈ l, (d.weights P e).all (· ≤ B) = true := by
  intro l
  induction l with
  | nil => intro _ d h; cases h
  | cons x r ih =>
    intro h d hd
    rw [DataW.weightsAll, List.all_append, Bool.and_eq_true] at h
    rcases List.mem_cons.1 hd with rfl | hd
    · exact h.1
    · exact ih h.2 d hd
theorem add_add_ (a : Addr) (i j : Nat) : (a.add i).add j = a.add (i + j) := by
  unfold Addr.add
  by_cases h1 : i = 0 <;> by_cases h2 : j = 0 <;> simp [h1, h2, Nat.add_assoc]
theorem add_none (b o j : Nat) : (⟨b, o, none⟩ : Addr).add j = ⟨b, o + j, none⟩ := by
  unfold Addr.add
  by_cases h : j = 0 <;> simp [h]

theorem under_bss : Tryz.prog.underlying 62 = some (.slice 24) := Tryz.underlying62
theorem under_tys : Tryz.prog.underlying 22 = some (.slice 64) := Tryz.underlying22
theorem bs_fields : Tryz.prog.underlying 24 = some (.struct #[⟨"Cell", 4, 0, false, "", "", 0⟩, ⟨"N", 3, 1, false, "", "", 8⟩]) := by kernel_rfl
theorem ty_fields : Tryz.prog.underlying 64 = some (.struct #[⟨"Params", 62, 0, false, "", "", 0⟩, ⟨"Result", 24, 1, false, "", "", 24⟩]) := by kernel_rfl
theorem ar_fields : Tryz.prog.underlying 26 = some (.struct #[⟨"Ids", 22, 0, false, "", "", 0⟩, ⟨"Root", 24, 1, false, "", "", 24⟩, ⟨"Jumps", 4, 3, false, "", "", 40⟩]) := by kernel_rfl
theorem bool_cells : Tryz.prog.cellsOf 4 = 1 := by kernel_rfl
theorem int_cells : Tryz.prog.cellsOf 3 = 1 := by kernel_rfl
theorem bs_cells : Tryz.prog.cellsOf 24 = 2 := by kernel_rfl
theorem bss_cells : Tryz.prog.cellsOf 62 = 1 := by kernel_rfl
theorem tys_cells : Tryz.prog.cellsOf 22 = 1 := by kernel_rfl
theorem ty_cells : Tryz.prog.cellsOf 64 = 3 := by kernel_rfl
theorem ar_cells : Tryz.prog.cellsOf 26 = 4 := by kernel_rfl
theorem bs_bytes : Tryz.prog.bytesOf 24 = 16 := by kernel_rfl
theorem ty_bytes : Tryz.prog.bytesOf 64 = 40 := by kernel_rfl

section
variable {H : Type} {enc : TypeId × Value → H} {W : World} {fuel : Nat} {cs : List Value} {x : DataW H × List MemPlace}

set_option maxRecDepth 100000 in
/-- A base type that is read. -/
theorem read_bs (h : DataW.trod enc Tryz.prog W 0 (fun _ => true) true fuel 24 cs = some x) : ∃ b : Bs, cs = [.bool b.cell, .int .i64 b.n] := by
  obtain ⟨y0, y1, n, rfl, hl, h0, h1⟩ := trod_struct2 bs_fields h
  rw [bs_cells] at hl
  match cs, hl with
  | [c0, c1], _ =>
    simp only [bool_cells, int_cells, List.drop_zero, List.take_succ_cons, List.take_zero, List.drop_succ_cons] at h0 h1
    obtain ⟨b, e0, _⟩ := DataW.trod_bool Tryz.underlying4 h0
    obtain ⟨k, e1, _, _⟩ := DataW.trod_int Tryz.underlying3 h1
    exact ⟨⟨b, k⟩, by simp at e0 e1; rw [e0, e1]⟩

set_option maxRecDepth 100000 in
/-- A slice of base types that is read. -/
theorem read_bss (h : DataW.trod enc Tryz.prog W 0 (fun _ => true) true fuel 62 cs = some x) (hw : (x.1.weights Tryz.prog 62).all (· ≤ reachBytes) = true) :
    ∃ (v : Value) (l : List Bs), cs = [v] ∧ SlB W v l ∧ l.length ≤ 140737488355328 := by
  rcases open_slice under_bss h with ⟨rfl, _⟩ | ⟨a, len, cap, m, n, D, Pl, rfl, _, hl, _, hm, hx, hi⟩
  · exact ⟨_, [], rfl, ⟨none, 0, rfl, fun h => absurd h (by simp)⟩, by simp⟩
  · have hd : x.1 = .slice ((List.range len).map D) ((List.range (m - len)).map fun j => D (len + j)) := congrArg Prod.fst hx
    rw [hd] at hw
    have hw2 : (((List.range len).map D).length + ((List.range (m - len)).map fun j => D (len + j)).length) * 16 ≤ reachBytes := by
      have hu : (DataW.slice ((List.range len).map D) ((List.range (m - len)).map fun j => D (len + j))).weights Tryz.prog 62 = (((List.range len).map D).length + ((List.range (m - len)).map fun j => D (len + j)).length) * Tryz.prog.bytesOf 24 :: (DataW.weightsAll Tryz.prog 24 ((List.range len).map D) ++ DataW.weightsAll Tryz.prog 24 ((List.range (m - len)).map fun j => D (len + j))) := by
        rw [DataW.weights, under_bss]
      rw [hu, List.all_cons, Bool.and_eq_true, bs_bytes] at hw
      exact of_decide_eq_true hw.1
    rw [List.length_map, List.length_range] at hw2
    have hlen : len ≤ 140737488355328 := by unfold reachBytes at hw2; omega
    have hel : ∀ i, i < len → ∃ y : Bs, W.cell? (a.add (i * 2)) = some (.bool y.cell) ∧ W.cell? (a.add (i * 2 + 1)) = some (.int .i64 y.n) := by
      intro i hil
      obtain ⟨cs', hc, ht⟩ := hi i (by have : m = cap := by simpa using hm
                                       omega)
      rw [bs_cells] at hc
      obtain ⟨b, rfl⟩ := read_bs ht
      obtain ⟨_, _, hat⟩ := World.cells?_some hc
      have h0 := hat 0 (by omega)
      have h1 := hat 1 (by omega)
      rw [add_add_] at h0 h1
      exact ⟨b, h0, h1⟩
    obtain ⟨l, hll, hq⟩ := list_of _ len hel
    subst hll
    refine ⟨_, l, rfl, ⟨_, _, rfl, fun h0 => ?_⟩, hlen⟩
    obtain ⟨b, o, spot⟩ := a
    have h1 := (hq 0 _ (List.getElem?_eq_getElem h0)).1
    have hspot : spot = none := by simpa [Addr.add] using World.cell?_spot h1
    subst hspot
    simp only [add_none] at hq h1
    exact ⟨b, o, rfl, block_lt_of_cell h1, fun i y hy => ⟨(hq i y hy).1, (hq i y hy).2⟩⟩

set_option maxRecDepth 100000 in
/-- A type that is read. -/
theorem read_ty (h : DataW.trod enc Tryz.prog W 0 (fun _ => true) true fuel 64 cs = some x) (hw : (x.1.weights Tryz.prog 64).all (· ≤ reachBytes) = true) :
    ∃ (pv : Value) (t : Ty), cs = [pv, .bool t.result.cell, .int .i64 t.result.n] ∧ SlB W pv t.params ∧ t.params.length ≤ 140737488355328 := by
  obtain ⟨y0, y1, n, rfl, hl, h0, h1⟩ := trod_struct2 ty_fields h
  rw [ty_cells] at hl
  match cs, hl with
  | [c0, c1, c2], _ =>
    simp only [bss_cells, bs_cells, List.drop_zero, List.take_succ_cons, List.take_zero, List.drop_succ_cons] at h0 h1
    have hu : (DataW.agg [y0.1, y1.1]).weights Tryz.prog 64 = y0.1.weights Tryz.prog 62 ++ (y1.1.weights Tryz.prog 24 ++ []) := by
      rw [DataW.weights, ty_fields]
      simp [DataW.weightsEach]
    rw [hu, List.all_append, Bool.and_eq_true] at hw
    obtain ⟨v, l, e0, hs, hl2⟩ := read_bss h0 hw.1
    obtain ⟨b, e1⟩ := read_bs h1
    simp at e0 e1
    exact ⟨v, ⟨l, b⟩, by rw [e0, e1.1, e1.2], hs, hl2⟩

set_option maxRecDepth 100000 in
/-- A slice of types that is read. -/
theorem read_tys (h : DataW.trod enc Tryz.prog W 0 (fun _ => true) true fuel 22 cs = some x) (hw : (x.1.weights Tryz.prog 22).all (· ≤ reachBytes) = true) :
    ∃ (v : Value) (l : List Ty), cs = [v] ∧ SlT W v l ∧ l.length ≤ 140737488355328 ∧ ∀ t ∈ l, t.params.length ≤ 140737488355328 := by
  rcases open_slice under_tys h with ⟨rfl, _⟩ | ⟨a, len, cap, m, n, D, Pl, rfl, _, hl, _, hm, hx, hi⟩
  · exact ⟨_, [], rfl, ⟨none, 0, rfl, fun h => absurd h (by simp)⟩, by simp, fun t ht => by cases ht⟩
  · have hd : x.1 = .slice ((List.range len).map D) ((List.range (m - len)).map fun j => D (len + j)) := congrArg Prod.fst hx
    rw [hd] at hw
    have hw2 : (((List.range len).map D).length + ((List.range (m - len)).map fun j => D (len + j)).length) * 40 ≤ reachBytes ∧ (DataW.weightsAll Tryz.prog 64 ((List.range len).map D)).all (· ≤ reachBytes) = true := by
      have hu : (DataW.slice ((List.range len).map D) ((List.range (m - len)).map fun j => D (len + j))).weights Tryz.prog 22 = (((List.range len).map D).length + ((List.range (m - len)).map fun j => D (len + j)).length) * Tryz.prog.bytesOf 64 :: (DataW.weightsAll Tryz.prog 64 ((List.range len).map D) ++ DataW.weightsAll Tryz.prog 64 ((List.range (m - len)).map fun j => D (len + j))) := by
        rw [DataW.weights, under_tys]
      rw [hu, List.all_cons, List.all_append, Bool.and_eq_true, Bool.and_eq_true, ty_bytes] at hw
      exact ⟨of_decide_eq_true hw.1, hw.2.1⟩
    obtain ⟨hwl, hwe⟩ := hw2
    rw [List.length_map, List.length_range] at hwl
    have hlen : len ≤ 140737488355328 := by unfold reachBytes at hwl; omega
    have hel : ∀ i, i < len → ∃ y : Ty, (∃ pv, SlB W pv y.params ∧ W.cell? (a.add (i * 3)) = some pv ∧ W.cell? (a.add (i * 3 + 1)) = some (.bool y.result.cell) ∧ W.cell? (a.add (i * 3 + 2)) = some (.int .i64 y.result.n)) ∧ y.params.length ≤ 140737488355328 := by
      intro i hil
      obtain ⟨cs', hc, ht⟩ := hi i (by have : m = cap := by simpa using hm
                                       omega)
      rw [ty_cells] at hc
      have hdw := weight_all _ hwe (D i) (List.mem_map.2 ⟨i, by simpa using hil, rfl⟩)
      obtain ⟨pv, t, rfl, hs, hl3⟩ := read_ty ht hdw
      obtain ⟨_, _, hat⟩ := World.cells?_some hc
      have h0 := hat 0 (by omega)
      have h1 := hat 1 (by omega)
      have h2 := hat 2 (by omega)
      rw [add_add_] at h0 h1 h2
      exact ⟨t, ⟨pv, hs, h0, h1, h2⟩, hl3⟩
    obtain ⟨l, hll, hq⟩ := list_of _ len hel
    subst hll
    refine ⟨_, l, rfl, ⟨_, _, rfl, fun h0 => ?_⟩, hlen, fun t ht => ?_⟩
    · obtain ⟨b, o, spot⟩ := a
      obtain ⟨⟨_, _, h1, _, _⟩, _⟩ := hq 0 _ (List.getElem?_eq_getElem h0)
      have hspot : spot = none := by simpa [Addr.add] using World.cell?_spot h1
      subst hspot
      simp only [add_none] at hq h1
      exact ⟨b, o, rfl, block_lt_of_cell h1, fun i y hy => (hq i y hy).1⟩
    · obtain ⟨i, hi', rfl⟩ := List.mem_iff_getElem.1 ht
      exact (hq i _ (List.getElem?_eq_getElem hi')).2
end

set_option maxRecDepth 100000 in
/-- An argument that is an arena. -/
theorem open_ar {H : Type} {enc : TypeId × Value → H} {W : World} {base : Nat} {v : Value} {d : DataW H} {p : List MemPlace} (hv : Value.okWide Tryz.prog W .any base 26 v)
    (h : DataW.Trod enc Tryz.prog W 0 (fun _ => true) true 26 v d p) (hw : (d.weights Tryz.prog 26).all (· ≤ reachBytes) = true) :
    ∃ (ids : Value) (a : Ar), v = arV ids a ∧ ArIn W ids a := by
  obtain ⟨cs, rfl, hsz⟩ := okWide_struct ar_fields hv
  obtain ⟨c0, c1, c2, c3, rfl⟩ := Go.Joins.array4 (hsz.trans ar_cells)
  obtain ⟨fuel, hf⟩ := h
  obtain ⟨y0, y1, y2, n, hx, _, h0, h1, h2⟩ := trod_struct3 ar_fields hf
  simp only [Prod.mk.injEq] at hx
  obtain ⟨rfl, -⟩ := hx
  simp only [Value.cells, tys_cells, bs_cells, bool_cells, List.drop_zero, List.take_succ_cons, List.take_zero, List.drop_succ_cons] at h0 h1 h2
  have hu : (DataW.agg [y0.1, y1.1, y2.1]).weights Tryz.prog 26 = y0.1.weights Tryz.prog 22 ++ (y1.1.weights Tryz.prog 24 ++ (y2.1.weights Tryz.prog 4 ++ [])) := by
    rw [DataW.weights, ar_fields]
    simp [DataW.weightsEach]
  rw [hu, List.all_append, Bool.and_eq_true] at hw
  obtain ⟨u, l, e0, hs, hl, hls⟩ := read_tys h0 hw.1
  obtain ⟨b, e1⟩ := read_bs h1
  obtain ⟨j, e2, _⟩ := DataW.trod_bool Tryz.underlying4 h2
  simp at e0 e1 e2
  exact ⟨u, ⟨l, b, j⟩, by rw [e0, e1.1, e1.2, e2]; rfl, hs, hl, hls⟩

end Go.Proofs.YtoncdnelacolaaaGreatDoor.Ar
