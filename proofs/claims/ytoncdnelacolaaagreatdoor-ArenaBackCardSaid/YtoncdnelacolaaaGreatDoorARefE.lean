/- Copies of the reference: Copy. -/
import Derived.Test.YtoncdnelacolaaaGreatDoorARefD
import Derived.Test.YtoncdnelacolaaaGreatDoorABlocks
namespace Go.Proofs.YtoncdnelacolaaaGreatDoor.Ar
open Go Go.Proofs Go.RowKit Lx Ps

theorem ty_info2 : (Tryz.prog.info? 64).map (fun i => (i.zero, i.size, i.bytes)) = some (some (.agg #[.slice none 0 0, .bool false, .int .i64 0]), 3, 40) := by kernel_rfl
/-- The cells of types whose params are these values. -/
def tyRow : List Value → List Ty → List Value
  | p :: ps, t :: l => p :: .bool t.result.cell :: .int .i64 t.result.n :: tyRow ps l
  | _, _ => []
theorem tyRow_push (p : Value) (t : Ty) : ∀ (ps : List Value) (l : List Ty), ps.length = l.length → tyRow (ps ++ [p]) (l ++ [t]) = tyRow ps l ++ [p, .bool t.result.cell, .int .i64 t.result.n]
  | [], [], _ => rfl
  | q :: ps, s :: l, h => by
    have := tyRow_push p t ps l (by simpa using h)
    simp [tyRow, this]
theorem tyRow_get : ∀ (ps : List Value) (l : List Ty) (i : Nat) (p : Value) (t : Ty), ps[i]? = some p → l[i]? = some t →
    (tyRow ps l)[i * 3]? = some p ∧ (tyRow ps l)[i * 3 + 1]? = some (.bool t.result.cell) ∧ (tyRow ps l)[i * 3 + 2]? = some (.int .i64 t.result.n)
  | [], _, i, p, t, h, _ => by simp at h
  | _ :: _, [], i, p, t, _, h => by simp at h
  | q :: ps, s :: l, 0, p, t, h1, h2 => by
    simp at h1 h2
    subst h1 h2
    exact ⟨rfl, rfl, rfl⟩
  | q :: ps, s :: l, i + 1, p, t, h1, h2 => by
    have := tyRow_get ps l i p t (by simpa using h1) (by simpa using h2)
    have e : ∀ d, (tyRow (q :: ps) (s :: l))[(i + 1) * 3 + d]? = (tyRow ps l)[i * 3 + d]? := fun d => by
      rw [show (i + 1) * 3 + d = i * 3 + d + 3 by omega]; rfl
    exact ⟨(e 0).trans this.1, (e 1).trans this.2.1, (e 2).trans this.2.2⟩
/-- Params that lie in blocks of their own. -/
structure Cps (W : World) (base : Nat) (ps : List Value) (l : List Ty) : Prop where
  len : ps.length = l.length
  own : ∀ (i : Nat) (p : Value) (t : Ty), ps[i]? = some p → l[i]? = some t → W.ownsRow base 24 2 p t.params.length (t.params.flatMap bsVals)
theorem Cps.map {W W' : World} {base : Nat} {ps : List Value} {l : List Ty} (h : Cps W base ps l) (hf : ∀ (p : Value) (n : Nat) (xs : List Value), W.ownsRow base 24 2 p n xs → W'.ownsRow base 24 2 p n xs) : Cps W' base ps l :=
  ⟨h.len, fun i p t h1 h2 => hf _ _ _ (h.own i p t h1 h2)⟩
theorem Cps.map' {W W' : World} {base base' : Nat} {ps : List Value} {l : List Ty} (h : Cps W base ps l) (hf : ∀ (p : Value) (n : Nat) (xs : List Value), W.ownsRow base 24 2 p n xs → W'.ownsRow base' 24 2 p n xs) : Cps W' base' ps l :=
  ⟨h.len, fun i p t h1 h2 => hf _ _ _ (h.own i p t h1 h2)⟩
theorem Cps.push {W : World} {base : Nat} {ps : List Value} {l : List Ty} {p : Value} {t : Ty} (h : Cps W base ps l) (hp : W.ownsRow base 24 2 p t.params.length (t.params.flatMap bsVals)) : Cps W base (ps ++ [p]) (l ++ [t]) := by
  refine ⟨by simp [h.len], fun i q s h1 h2 => ?_⟩
  by_cases hi : i < ps.length
  · rw [List.getElem?_append_left hi] at h1
    rw [List.getElem?_append_left (by rw [← h.len]; exact hi)] at h2
    exact h.own i q s h1 h2
  · rw [List.getElem?_append_right (by omega)] at h1
    rw [List.getElem?_append_right (by rw [← h.len]; omega), ← h.len] at h2
    by_cases h0 : i - ps.length = 0
    · rw [h0] at h1 h2
      simp at h1 h2
      subst h1 h2
      exact hp
    · obtain ⟨j, hj⟩ : ∃ j, i - ps.length = j + 1 := ⟨i - ps.length - 1, by omega⟩
      rw [hj] at h1
      simp at h1
theorem own_block {W : World} {base n size : Nat} {e : TypeId} {v : Value} {xs : List Value} (h : W.ownsRow base e size v n xs) {r : Nat} (hr : v.ownBlock = some r) : base ≤ r ∧ r < W.heap.size ∧ ∃ cur, W.heap[r]? = some (.cells cur e (0, 0)) := by
  rcases h.2 with ⟨rfl, _⟩ | ⟨g, cap, cur, rfl, hb, hg, _⟩
  · simp [Value.ownBlock] at hr
  · simp [Value.ownBlock] at hr
    subst hr
    exact ⟨hb, (Array.getElem?_eq_some_iff.1 hg).1, cur, hg⟩
/-- Rows of different types lie in different blocks. -/
theorem own_apart {W : World} {b1 b2 n1 n2 s1 s2 : Nat} {e1 e2 : TypeId} {v1 v2 : Value} {xs1 xs2 : List Value} (h1 : W.ownsRow b1 e1 s1 v1 n1 xs1) (h2 : W.ownsRow b2 e2 s2 v2 n2 xs2) (he : e1 ≠ e2) : v1.ownBlock = none ∨ v1.ownBlock ≠ v2.ownBlock := by
  cases hv : v1.ownBlock with
  | none => exact .inl rfl
  | some r =>
    refine .inr fun e => he ?_
    obtain ⟨_, _, c1, g1⟩ := own_block h1 hv
    obtain ⟨_, _, c2, g2⟩ := own_block h2 e.symm
    rw [g1] at g2
    simp at g2
    exact g2.2
theorem SlB.of_own {W : World} {base : Nat} {v : Value} {l : List Bs} (h : W.ownsRow base 24 2 v l.length (l.flatMap bsVals)) : SlB W v l := by
  have hown := h
  rcases h.2 with ⟨rfl, h0⟩ | ⟨g, cap, cur, rfl, _, hgb, _⟩
  · exact ⟨none, 0, by rw [h0], fun h1 => absurd h1 (by omega)⟩
  refine ⟨_, cap, rfl, fun h0 => ⟨g, 0, rfl, (Array.getElem?_eq_some_iff.1 hgb).1, fun i x hx => ?_⟩⟩
  have hcells := fun j hj => World.ownsRow.cellAt hown j hj
  have hil : i < l.length := (List.getElem?_eq_some_iff.1 hx).1
  have hi : ∀ (l : List Bs) (i : Nat) (x : Bs), l[i]? = some x → (l.flatMap bsVals)[i * 2]? = some (.bool x.cell) ∧ (l.flatMap bsVals)[i * 2 + 1]? = some (.int .i64 x.n) := by
    intro l
    induction l with
    | nil => intro i t h; simp at h
    | cons y r ih =>
      intro i t h
      cases i with
      | zero =>
        simp at h
        subst h
        exact ⟨rfl, rfl⟩
      | succ i =>
        rw [List.getElem?_cons_succ] at h
        have := ih i t h
        have e : ∀ d, ((y :: r).flatMap bsVals)[(i + 1) * 2 + d]? = (r.flatMap bsVals)[i * 2 + d]? := fun d => by
          rw [show (i + 1) * 2 + d = i * 2 + d + 2 by omega]; rfl
        exact ⟨(e 0).trans this.1, (e 1).trans this.2⟩
  obtain ⟨p0, p1⟩ := hi l i x hx
  refine ⟨?_, ?_⟩
  · have := hcells (i * 2) (by omega); rw [p0] at this; simpa using this
  · have := hcells (i * 2 + 1) (by omega); rw [p1] at this; simpa using this
theorem SlT.of_rows {W : World} {base b2 : Nat} {v : Value} {ps : List Value} {l : List Ty} (h : W.ownsRow base 64 3 v l.length (tyRow ps l)) (hc : Cps W b2 ps l) : SlT W v l := by
  have hown := h
  rcases h.2 with ⟨rfl, h0⟩ | ⟨g, cap, cur, rfl, _, hgb, _⟩
  · exact ⟨none, 0, by rw [h0], fun h1 => absurd h1 (by omega)⟩
  refine ⟨_, cap, rfl, fun h0 => ⟨g, 0, rfl, (Array.getElem?_eq_some_iff.1 hgb).1, fun i x hx => ?_⟩⟩
  have hcells := fun j hj => World.ownsRow.cellAt hown j hj
  have hil : i < l.length := (List.getElem?_eq_some_iff.1 hx).1
  have hpi := List.getElem?_eq_getElem (show i < ps.length by rw [hc.len]; exact hil)
  obtain ⟨p0, p1, p2⟩ := tyRow_get ps l i _ x hpi hx
  refine ⟨_, SlB.of_own (hc.own i _ x hpi hx), ?_, ?_, ?_⟩
  · have := hcells (i * 3) (by omega); rw [p0] at this; simpa using this
  · have := hcells (i * 3 + 1) (by omega); rw [p1] at this; simpa using this
  · have := hcells (i * 3 + 2) (by omega); rw [p2] at this; simpa using this

theorem own4s {W : World} {base n size b : Nat} {e : TypeId} {v x y z u : Value} {xs : List Value} (h : W.ownsRow base e size v n xs) (hb : b < base) : ((((W.setCell ⟨b, 0, none⟩ x).setCell ⟨b, 1, none⟩ y).setCell ⟨b, 2, none⟩ z).setCell ⟨b, 3, none⟩ u).ownsRow base e size v n xs :=
  ownsRow_setCell_below (ownsRow_setCell_below (ownsRow_setCell_below (ownsRow_setCell_below h hb _) hb _) hb _) hb _
/-- What a round of Copy keeps: what was appended so far. -/
structure CopyI (w wr : World) (A : Option Addr) (cap : Nat) (a : Ar) (k : Nat) (u : Value) (ps : List Value) : Prop where
  own : wr.ownsRow (w.heap.size + 3) 64 3 u k (tyRow ps (a.ids.take k))
  cps : Cps wr (w.heap.size + 3) ps (a.ids.take k)
  below : Below w.heap.size w wr
  size : w.heap.size + 3 ≤ wr.heap.size
  r0 : wr.heap[w.heap.size]? = some (.cells #[.slice A a.ids.length cap, .bool a.root.cell, .int .i64 a.root.n, .bool a.jumps] 26 (0, 0))
  r1 : wr.heap[w.heap.size + 1]? = some (.cells #[.slice none 0 0, .bool false, .int .i64 0, .bool false] 26 (0, 0))
  r2 : wr.heap[w.heap.size + 1 + 1]? = some (.cells #[u, .bool a.root.cell, .int .i64 a.root.n, .bool a.jumps] 26 (0, 0))
theorem CopyI.step {w wr w1 X w2 : World} {A : Option Addr} {cap k cap1 g1 : Nat} {a : Ar} {u u2 : Value} {ps : List Value} {x : Ty} (h : CopyI w wr A cap a k u ps) (htk : a.ids.take (k + 1) = a.ids.take k ++ [x])
    (hb3 : Below wr.heap.size wr w1) (hown1 : w1.ownsRow wr.heap.size 24 2 (.slice (some ⟨g1, 0, none⟩) x.params.length cap1) x.params.length (x.params.flatMap bsVals)) (hX : Below w1.heap.size w1 X)
    (hown2 : w2.ownsRow (w.heap.size + 3) 64 3 u2 (k + 1) (tyRow ps (a.ids.take k) ++ [.slice (some ⟨g1, 0, none⟩) x.params.length cap1, .bool x.result.cell, .int .i64 x.result.n])) (hgrow : X.grownBy w2 u.ownBlock) :
    CopyI w (w2.setCell ⟨w.heap.size + 1 + 1, 0, none⟩ u2) A cap a (k + 1) u2 (ps ++ [.slice (some ⟨g1, 0, none⟩) x.params.length cap1]) := by
  have hz := h.size
  have hz1 := hb3.size
  have hzX := hX.size
  have hz2 := hgrow.size
  have hbX : Below wr.heap.size wr X := hb3.trans (hX.mono hz1)
  have hfar : ∀ b, b < w.heap.size + 3 → ∀ o, wr.heap[b]? = some o → w2.heap[b]? = some o := fun b hb o ho => by
    have h1 : X.heap[b]? = some o := (hbX.block b (by omega)).trans ho
    rw [hgrow.block b (by omega) (fun e => by
      have := (own_block h.own e.symm).1
      omega)]
    exact h1
  have hownX : X.ownsRow (w.heap.size + 3) 64 3 u k (tyRow ps (a.ids.take k)) := own_below h.own hbX
  have hkeep : ∀ (p : Value) (n : Nat) (xs : List Value), X.ownsRow (w.heap.size + 3) 24 2 p n xs → (w2.setCell ⟨w.heap.size + 1 + 1, 0, none⟩ u2).ownsRow (w.heap.size + 3) 24 2 p n xs := fun p n xs hp =>
    ownsRow_setCell_below (hp.kept hgrow (own_apart hp hownX (by decide))) (by show w.heap.size + 1 + 1 < _; omega) _
  have hset : ∀ b o, b ≠ w.heap.size + 1 + 1 → w2.heap[b]? = some o → (w2.setCell ⟨w.heap.size + 1 + 1, 0, none⟩ u2).heap[b]? = some o := fun b o hne ho => by
    rw [← ho]
    exact heap_setCell_other w2 ⟨w.heap.size + 1 + 1, 0, none⟩ b u2 hne
  have hb2 : Below w.heap.size w w2 := (h.below.trans (hbX.mono h.below.size)).grown hgrow (by omega) (fun j e => by have := (own_block h.own e).1; omega)
  have r2 := hfar _ (by omega) _ h.r2
  refine ⟨?_, ?_, ?_, ?_, ?_, ?_, ?_⟩
  · rw [htk, tyRow_push _ _ _ _ h.cps.len]
    exact ownsRow_setCell_below hown2 (by show w.heap.size + 1 + 1 < _; omega) _
  · rw [htk]
    refine Cps.push ?_ ?_
    · exact (h.cps.map fun p n xs hp => hkeep p n xs (own_below hp hbX))
    · exact hkeep _ _ _ (own_below (World.ownsRow.mono hown1 hz) hX)
  · exact hb2.setCell (by show w.heap.size ≤ w.heap.size + 1 + 1; omega) _
  · rw [World.size_setCell]; omega
  · exact hset _ _ (by omega) (hfar _ (by omega) _ h.r0)
  · exact hset _ _ (by omega) (hfar _ (by omega) _ h.r1)
  · rw [setCell_eq_setRow w2 (w.heap.size + 1 + 1) 0 _ _ _ u2 r2]
    exact setRow_heap w2 _ _ _ _ _ r2

set_option maxRecDepth 100000 in
set_option maxHeartbeats 2000000 in
theorem copy_own (ids : Value) (a : Ar) (w : World) (hin : ArIn w ids a) (hl : a.ids.length ≤ 1000) (hls : ∀ t ∈ a.ids, t.params.length ≤ 1000) :
    Calls Tryz.prog 18 #[arV ids a] w fun e w' => ∃ v ps, e = .returned (arV v a) ∧ w'.ownsRow w.heap.size 64 3 v a.ids.length (tyRow ps a.ids) ∧ Cps w' w.heap.size ps a.ids ∧ Below w.heap.size w w' := by
  have hlen := hin.len
  have hls2 := hin.lens
  obtain ⟨A, cap, rfl, hA⟩ := hin.sl
  clear hin
  obtain ⟨i0, hi, hz0, hz1, hz2⟩ := info_parts ty_info2
  obtain ⟨k0, k1, k2⟩ := blocks3 w (.cells #[.slice A a.ids.length cap, .bool a.root.cell, .int .i64 a.root.n, .bool a.jumps] 26) (.cells #[.slice none 0 0, .bool false, .int .i64 0, .bool false] 26) (.cells #[.slice none 0 0, .bool a.root.cell, .int .i64 a.root.n, .bool a.jumps] 26)
  have hba : Below w.heap.size w (((w.alloc (.cells #[.slice A a.ids.length cap, .bool a.root.cell, .int .i64 a.root.n, .bool a.jumps] 26)).alloc (.cells #[.slice none 0 0, .bool false, .int .i64 0, .bool false] 26)).alloc (.cells #[.slice none 0 0, .bool a.root.cell, .int .i64 a.root.n, .bool a.jumps] 26)) := below_three
  have hsz : (((w.alloc (.cells #[.slice A a.ids.length cap, .bool a.root.cell, .int .i64 a.root.n, .bool a.jumps] 26)).alloc (.cells #[.slice none 0 0, .bool false, .int .i64 0, .bool false] 26)).alloc (.cells #[.slice none 0 0, .bool a.root.cell, .int .i64 a.root.n, .bool a.jumps] 26)).heap.size = w.heap.size + 3 := by simp
  unfold arV
  go_enter Tryz.func18, Tryz.ntmps18
  go_upto_region 2 with (fail)
  generalize (((w.alloc (.cells #[.slice A a.ids.length cap, .bool a.root.cell, .int .i64 a.root.n, .bool a.jumps] 26)).alloc (.cells #[.slice none 0 0, .bool false, .int .i64 0, .bool false] 26)).alloc (.cells #[.slice none 0 0, .bool a.root.cell, .int .i64 a.root.n, .bool a.jumps] 26)) = V at k0 k1 k2 hba hsz ⊢
  go_wp2
  go_loopw [4] (fun c wr => ∃ (k : Nat) (u : Value) (ps : List Value), k ≤ a.ids.length ∧ c = .int .i64 (k : Int) ∧ CopyI w wr A cap a k u ps) (fun c _ => a.ids.length - (intOf c).toNat)
  case atStart => exact ⟨0, .slice none 0 0, [], Nat.zero_le _, rfl, World.ownsRow_nil _ _ _ _, ⟨rfl, fun i p t h _ => by simp at h⟩, hba, by omega, k0, k1, k2⟩
  case round =>
    obtain ⟨k, u, ps, hk, rfl, hci⟩ := hrel
    have hb := hci.below
    have hsr := hci.size
    obtain ⟨Ao, co, rfl⟩ := own_slice hci.own
    clear k0 k1 k2 hba hsz
    have HCI := Lib.hid hci
    obtain ⟨⟨r0, r1, r2, r3⟩, -, hl0⟩ := four_c hci.r0
    obtain ⟨⟨u0, u1, u2, u3⟩, ⟨f0, f1, f2, f3⟩, hl2⟩ := four_c hci.r2
    have hl1 := (Array.getElem?_eq_some_iff.1 hci.r1).1
    clear hci
    by_cases hlt : k < a.ids.length
    · obtain ⟨b1, o1, rfl, hb1, hc1⟩ := hA (by omega)
      obtain ⟨pv, p0, p1, p2, p3⟩ := hc1 k _ (List.getElem?_eq_getElem hlt)
      have p1' := (hb.cell (p := ⟨b1, o1 + k * 3, none⟩) hb1).trans p1
      have p2' := (hb.cell (p := ⟨b1, o1 + k * 3 + 1, none⟩) hb1).trans p2
      have p3' := (hb.cell (p := ⟨b1, o1 + k * 3 + 2, none⟩) hb1).trans p3
      have p0' := p0.below hb
      have htk := List.take_succ_eq_append_getElem hlt
      have hxl := hls _ (List.getElem_mem hlt)
      generalize a.ids[k] = x at p0' p1' p2' p3' htk hxl
      have hcal : ∀ W, Below wr.heap.size wr W → Calls Tryz.prog 54 #[tyV pv x] W fun e w' => ∃ g cap, e = .returned (.agg #[.slice (some ⟨g, 0, none⟩) x.params.length cap, .bool x.result.cell, .int .i64 x.result.n]) ∧
        w'.ownsRow W.heap.size 24 2 (.slice (some ⟨g, 0, none⟩) x.params.length cap) x.params.length (x.params.flatMap bsVals) ∧ Below W.heap.size W w' := fun W hW => copyType_any x pv W (p0'.below hW) hxl
      unfold tyV at hcal
      have HC := Lib.hid hcal
      have HT := Lib.hid htk
      obtain ⟨A2, c2, rfl, -⟩ := p0'
      have hb1r : b1 < wr.heap.size := Nat.lt_of_lt_of_le hb1 hb.size
      clear hcal p1 p2 p3 p0 hc1 hA htk
      go_upto_region 5 with (fail)
      have hk1000 : k ≤ 1000 := by omega
      have hfar0 : ∀ b, b < w.heap.size + 3 → some b ≠ (Value.slice Ao k co).ownBlock := fun b hb e => by have := (World.ownsRow.lt HCI.out.own b e.symm).1; omega
      have HFAR := Lib.hid hfar0
      clear hfar0
      go_region_law (first
          | (go_simp; go_at_call 54; refine (HC.out _ (by first | exact Below.refl _ _ | exact (Below.refl _ _).drew)).mono ?_; rintro e w1 ⟨g1, cap1, rfl, hown1, hb4⟩; have hb3 : Below wr.heap.size wr w1 := ⟨hb4.os, hb4.tape, hb4.output, hb4.size, hb4.block⟩; have q0 := (hb3.cell (p := ⟨w.heap.size + 1 + 1, 0, none⟩) hl2).trans u0; have q1 := (hb3.frozen (p := ⟨w.heap.size + 1 + 1, 0, none⟩) hl2).trans f0; have hz3 := hb3.size; have hzz : w.heap.size + 1 + 1 < w1.heap.size := Nat.lt_of_lt_of_le hl2 hz3)
          | (refine step_append_lies _ (by rfl) _ _ _ (by rfl) (w.heap.size + 3) 64 i0 _ 3 40 Tryz.underlying22 hi hz0 hz1 hz2 rfl (by omega) _ _ _ (by rfl) ((own_below HCI.out.own hb3).alloc _) ⟨w1.heap.size, 0, none⟩ 1 1 [.slice (some ⟨g1, 0, none⟩) x.params.length cap1, .bool x.result.cell, .int .i64 x.result.n] (by rfl) (by rfl) (World.news_of_block (cs := #[.slice (some ⟨g1, 0, none⟩) x.params.length cap1, .bool x.result.cell, .int .i64 x.result.n]) (t := 64) (fr := (0, 0)) (heap_alloc_new w1 _)) (fun u hu => by simp at hu; rcases hu with rfl | rfl | rfl <;> rfl) (by omega) (by unfold maxLen; omega) (by omega) (by simp; omega) (w1.heap.size + 1) (by simp) ?_; intro gg cg w2 hown2 hgrow hat hlt2; have hbX := (Below.refl w1.heap.size w1).alloc (Nat.le_refl _) (.cells #[.slice (some ⟨g1, 0, none⟩) x.params.length cap1, .bool x.result.cell, .int .i64 x.result.n] 64); have e0 := (hgrow.cell_far ⟨w.heap.size + 1 + 1, 0, none⟩ (Nat.lt_of_lt_of_le hzz hbX.size) (HFAR.out (w.heap.size + 1 + 1) (by omega))).trans ((hbX.cell (p := ⟨w.heap.size + 1 + 1, 0, none⟩) hzz).trans q0); have e1 := (hgrow.frozen_far ⟨w.heap.size + 1 + 1, 0, none⟩ (Nat.lt_of_lt_of_le hzz hbX.size) (HFAR.out (w.heap.size + 1 + 1) (by omega))).trans ((hbX.frozen (p := ⟨w.heap.size + 1 + 1, 0, none⟩) hzz).trans q1)))
      all_goals
        go_wp2
        go_roundw
        case rel => exact ⟨k + 1, _, _, by omega, by go_num, HCI.out.step HT.out hb3 hown1 hbX hown2 hgrow⟩
        case measure => simp [intOf]; omega
    · have hkN : k = a.ids.length := by omega
      subst hkN
      obtain ⟨⟨g0, g1, g2, g3⟩, ⟨m0, m1, m2, m3⟩, -⟩ := four_c HCI.out.r1
      have hown := HCI.out.own
      have hcps := HCI.out.cps
      rw [List.take_length] at hown hcps
      have HO := Lib.hid hown
      have HP := Lib.hid hcps
      clear hown hcps hA
      go_wp2
      refine bodyPost_ret (v := .agg #[.slice Ao a.ids.length co, .bool a.root.cell, .int .i64 a.root.n, .bool a.jumps]) (by simp [results, Tryz.results18, go_sem, g0, g1, g2, g3]) rfl ⟨_, _, rfl, World.ownsRow.mono (own4s HO.out (by omega)) (by omega), HP.out.map' (fun p n xs hp => World.ownsRow.mono (own4s hp (by omega)) (by omega)), below4s hb (by omega)⟩

theorem copy_any (ids : Value) (a : Ar) (w : World) (hin : ArIn w ids a) (hl : a.ids.length ≤ 1000) (hls : ∀ t ∈ a.ids, t.params.length ≤ 1000) :
    Calls Tryz.prog 18 #[arV ids a] w fun e w' => ∃ v, e = .returned (arV v a) ∧ ArIn w' v a ∧ Below w.heap.size w w' :=
  (copy_own ids a w hin hl hls).mono fun _ _ ⟨v, _, he, ho, hc, hb⟩ => ⟨v, he, ⟨SlT.of_rows ho hc, hin.len, hin.lens⟩, hb⟩

end Go.Proofs.YtoncdnelacolaaaGreatDoor.Ar
