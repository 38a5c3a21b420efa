/- Where a byte goes (Moved of package lex); a copy of a slice. -/
import Derived.Test.YtocogbllhmiefaaGreatDoorWalkX
import Derived.Test.YtocogbllhmiefaaGreatDoorSpecE
import Derived.OwnWalk
namespace Go.Proofs.YtocogbllhmiefaaGreatDoor.Lx
open Go Go.Proofs Go.RowKit Go.Shelf

/-- A slice value whose elements' cells are known, nil or not. -/
def Src (w : World) (v : Value) (n : Nat) (cells : List Value) : Prop :=
  (v = .slice none 0 0 ∧ n = 0 ∧ cells = []) ∨ ∃ ad c, v = .slice (some ad) n c ∧ ∀ j u, cells[j]? = some u → w.cell? (ad.add j) = some u
theorem Src.of_own {w : World} {base : Nat} {e : TypeId} {size n : Nat} {v : Value} {xs : List Value} (h : w.ownsRow base e size v n xs) (_hs : 0 < size) : Src w v n xs := by
  have hown := h
  rcases h.2 with ⟨rfl, h0⟩ | ⟨g, cap, cur, rfl, _, hgb, _⟩
  · refine .inl ⟨rfl, h0, ?_⟩
    have := h.1
    rw [h0, Nat.zero_mul] at this
    exact List.length_eq_zero_iff.1 this
  · refine .inr ⟨_, cap, rfl, fun j u hu => ?_⟩
    have hj : j < xs.length := (List.getElem?_eq_some_iff.1 hu).1
    rw [add_zero_off]
    exact (World.ownsRow.cellAt hown j (by rw [← h.1]; exact hj)).trans hu
theorem Src.below {w w' : World} {v : Value} {n : Nat} {cells : List Value} (h : Src w v n cells) (hb : ∀ p u, w.cell? p = some u → w'.cell? p = some u) : Src w' v n cells := by
  rcases h with h | ⟨ad, c, e, h⟩
  · exact .inl h
  · exact .inr ⟨ad, c, e, fun j u hu => hb _ u (h j u hu)⟩
theorem below_cells {w w' : World} (hb : Below w.heap.size w w') : ∀ p u, w.cell? p = some u → w'.cell? p = some u := by
  intro p u h
  refine (hb.cell (p := p) ?_).trans h
  rcases Nat.lt_or_ge p.block w.heap.size with h1 | h1
  · exact h1
  · exfalso
    unfold World.cell? at h
    rw [Array.getElem?_eq_none h1] at h
    simp at h
theorem Src.next {w w' : World} {v : Value} {n : Nat} {cells : List Value} (h : Src w v n cells) (hb : Below w.heap.size w w') : Src w' v n cells := h.below (below_cells hb)

theorem cell_plain {w : World} {ad : Addr} {u : Value} (h : w.cell? ad = some u) : ad.spot = none ∧ ad.block < w.heap.size := by
  constructor
  · unfold World.cell? at h
    cases hs : ad.spot with
    | none => rfl
    | some k =>
      rw [hs] at h
      split at h <;> simp at h
  · rcases Nat.lt_or_ge ad.block w.heap.size with h1 | h1
    · exact h1
    · exfalso
      unfold World.cell? at h
      rw [Array.getElem?_eq_none h1] at h
      simp at h
theorem SlSp.of_src {W : World} {v : Value} {l : List Sp} (h : Src W v l.length (spCells l)) : SlSp W v l := by
  rcases h with ⟨rfl, h0, _⟩ | ⟨ad, c, rfl, h⟩
  · exact ⟨none, 0, by rw [h0], fun h1 => absurd h1 (by omega)⟩
  · refine ⟨_, c, rfl, fun h0 => ?_⟩
    have hat := sp_at l
    have h00 := h 0 _ (hat 0 _ (List.getElem?_eq_getElem h0) 0 _ rfl)
    obtain ⟨hs, hb⟩ := cell_plain h00
    obtain ⟨b, off, sp⟩ := ad
    have hsp : sp = none := hs
    subst hsp
    refine ⟨b, off, rfl, hb, fun i t ht => ?_⟩
    have g := fun j u hj => h (i * 3 + j) u (hat i t ht j u hj)
    simp only [Lib.addr_add] at g
    exact ⟨g 0 _ rfl, g 1 _ rfl, g 2 _ rfl⟩

/-- append([]T(nil), l...): a copy of the call's own. -/
theorem wpList_copy {P : Program} {w : World} {ops : Array Oper} {rest : List Oper} {o : Oper} {a : Act} {Q : Exit → Act → World → Prop} (hgd : o.guard = none) (s x : Operand) (t : TypeId)
    (ho : o.op = .call { callee := .builtin .append, args := #[s, x], argTypes := #[t, t] })
    (e : TypeId) (i : TypeInfo) (z : Value) (size bytes : Nat) (ht : P.underlying t = some (.slice e)) (hi : P.info? e = some i) (hz : i.zero = some z)
    (hsize : i.size = size) (hby : i.bytes = bytes) (hzs : z.cells.size = size) (hsz : 0 < size) (hs : a.eval s = .slice none 0 0)
    (v : Value) (n : Nat) (cells : List Value) (hx : a.eval x = v) (hsrc : Src w v n cells) (hl : cells.length = n * size) (h1 : ∀ u ∈ cells, u.oneCell' = true) (h63 : n ≤ maxLen) (hbytes : n * bytes ≤ 140737488355328)
    (h : ∀ v' w', w'.ownsRow w.heap.size e size v' n cells → Below w.heap.size w w' → wpList P ops Q rest (a.put o.dst v') w') : wpList P ops Q (o :: rest) a w := by
  rcases hsrc with ⟨rfl, rfl, rfl⟩ | ⟨ad, c, rfl, hc⟩
  · refine wpList_append_own_none hgd s x t ho w.heap.size e i size ht hi (.slice none 0 0) 0 [] hs (World.ownsRow_nil _ _ _ _) hx ?_
    exact h _ w (World.ownsRow_nil _ _ _ _) (Below.refl _ _)
  · refine wpList_append_own w hgd s x t ho w.heap.size e i z size bytes ht hi hz hsize hby hzs hsz (.slice none 0 0) 0 [] hs (World.ownsRow_nil _ _ _ _) ad n c cells hx hl hc h1 (by omega) (by simpa using hbytes) (Nat.le_refl _) ?_
    intro v' w' h2 h3 _
    exact h v' w' (by simpa using h2) (below_new h3)

theorem moved_err {s : ByteArray} {l : List Sp} {i : Int} (h : splErr s l ≠ 0) : moved s l i = (0, splErr s l) := by unfold moved; rw [if_pos h]
theorem moved_out {s : ByteArray} {l : List Sp} {i : Int} (h : splErr s l = 0) (hi : i < 0 ∨ (s.size : Int) < i) : moved s l i = (0, 3) := by unfold moved; rw [if_neg (by omega), if_pos hi]
theorem moved_some {s : ByteArray} {l : List Sp} {i n : Int} (h : splErr s l = 0) (h1 : 0 ≤ i) (h2 : i ≤ (s.size : Int)) (hm : mvFrom i i (eds s l) = some n) : moved s l i = (n, 0) := by
  unfold moved; rw [if_neg (by omega), if_neg (by omega), hm]
theorem moved_none {s : ByteArray} {l : List Sp} {i : Int} (h : splErr s l = 0) (h1 : 0 ≤ i) (h2 : i ≤ (s.size : Int)) (hm : mvFrom i i (eds s l) = none) : moved s l i = (0, 7) := by
  unfold moved; rw [if_neg (by omega), if_neg (by omega), hm]

def MovedP (s : ByteArray) (l : List Sp) (i : Int) (w : World) (e : Ending) (w' : World) : Prop :=
  e = .returned (.tuple #[.int .i64 (moved s l i).1, .int .i64 ((moved s l i).2 : Int)]) ∧ Below w.heap.size w w'
theorem MovedP.mk {s : ByteArray} {l : List Sp} {i : Int} {w w' : World} {n k : Int} {e : Nat} (h : moved s l i = (n, e)) (hk : k = (e : Int)) (hb : Below w.heap.size w w') : MovedP s l i w (.returned (.tuple #[.int .i64 n, .int .i64 k])) w' := by
  refine ⟨?_, hb⟩
  rw [h, hk]

set_option maxRecDepth 100000 in
set_option maxHeartbeats 4000000 in
theorem moved_any (s : ByteArray) (a : Value) (l : List Sp) (i : Int) (w : World) (hs : s.size ≤ 100000) (ha : SlSp w a l) (hl : l.length ≤ 100000) (ht : ∀ x ∈ l, x.text.size ≤ 100000) :
    Calls Tryz.prog 21 #[.string s, a, .int .i64 i] w (MovedP s l i w) := by
  have hed := edits_any s a l w hs ha hl ht
  have Hed := Lib.hid hed
  clear hed
  by_cases h0 : splErr s l = 0
  · have h40 := splErr_few h0
    have H0 := Lib.hid h0
    by_cases hin : 0 ≤ i ∧ i ≤ (s.size : Int)
    · obtain ⟨hi1, hi2⟩ := hin
      have Hms := Lib.hid (fun n => moved_some (n := n) h0 hi1 hi2)
      have Hmn := Lib.hid (moved_none h0 hi1 hi2)
      clear h0
      go_enter Tryz.func21, Tryz.ntmps21
      go_wp2_with (go_at_call 53; refine Hed.out.mono ?_; rintro e w1 ⟨v1, rfl, _, hok, hb1⟩; rw [H0.out]; obtain ⟨hri, hown1⟩ := hok H0.out; obtain ⟨A3, c3, rfl, hA3⟩ := SlEd.of_own hown1)
      have hlen := eds_length s l
      have hsm := fun x (h : x ∈ eds s l) => ed_small h hs ht
      have Hlen := Lib.hid hlen
      have Hsm := Lib.hid hsm
      clear hlen hsm hown1 hok
      generalize eds s l = E at hA3 Hlen Hsm Hms Hmn
      have hEl : E.length ≤ 40 := by rw [Hlen.out]; omega
      go_loopw [10, 33] (fun t j wr => ∃ (k : Nat) (tt : Int), k ≤ E.length ∧ j = .int .i64 k ∧ t = .int .i64 tt ∧ mvFrom i i E = mvFrom i tt (E.drop k) ∧ -(k * 1000000 : Int) ≤ tt ∧ tt ≤ 100000 + (k * 1000000 : Int) ∧ Below w1.heap.size w1 wr) (fun _ j _ => E.length - (intOf j).toNat)
      case atStart => exact ⟨0, i, Nat.zero_le _, rfl, rfl, rfl, by omega, by omega, Below.refl _ _⟩
      case round =>
        obtain ⟨k, tt, hk, rfl, rfl, hm, ht1, ht2, hbq⟩ := hrel
        have Hm := Lib.hid hm
        clear hm
        by_cases hlt2 : k < E.length
        · obtain ⟨b1, o1, rfl, hbb1, hc1⟩ := hA3 (by omega)
          obtain ⟨p1, p2, p3, p4, p5⟩ := hc1 k _ (List.getElem?_eq_getElem hlt2)
          have p1' := (hbq.cell (p := ⟨b1, o1 + k * 5, none⟩) hbb1).trans p1
          have p2' := (hbq.cell (p := ⟨b1, o1 + k * 5 + 1, none⟩) hbb1).trans p2
          have p3' := (hbq.cell (p := ⟨b1, o1 + k * 5 + 2, none⟩) hbb1).trans p3
          have p4' := (hbq.cell (p := ⟨b1, o1 + k * 5 + 3, none⟩) hbb1).trans p4
          have p5' := (hbq.cell (p := ⟨b1, o1 + k * 5 + 4, none⟩) hbb1).trans p5
          clear p1 p2 p3 p4 p5 hc1 hA3
          obtain ⟨hx1, hx2⟩ := Hsm.out _ (List.getElem_mem hlt2)
          have hd : E.drop k = E[k] :: E.drop (k + 1) := List.drop_eq_getElem_cons hlt2
          have Hd := Lib.hid hd
          clear hd
          generalize E[k] = x at p1' p2' p3' p4' p5' hx1 hx2 Hd
          have hqz := hbq.size
          have Hgr := Lib.hid (fun W => grows_any x W (by omega) (by omega))
          have hgb : -1000000 ≤ grow x ∧ grow x ≤ 1000000 := by unfold grow; omega
          obtain ⟨hgb1, hgb2⟩ := hgb
          have hbA := hbq.alloc hqz (.cells #[.int .i64 x.sp.lo, .int .i64 x.sp.hi, .string x.sp.text, .string x.old, .int .i64 x.place] 90)
          have HbA := Lib.hid hbA
          have HbB := Lib.hid (hbA.alloc hbA.size (.cells #[.int .i64 x.sp.lo, .int .i64 x.sp.hi, .string x.sp.text, .string x.old, .int .i64 x.place] 90))
          clear hbA
          by_cases h1 : x.sp.hi ≤ i
          · have Hs := Lib.hid (show mvFrom i tt (x :: E.drop (k + 1)) = mvFrom i (tt + grow x) (E.drop (k + 1)) by rw [mv_cons, if_pos h1])
            go_wp2_with (go_at_call 54; refine (Hgr.out _).mono ?_; rintro e w2 ⟨rfl, rfl⟩)
            go_roundw
            case rel => exact ⟨k + 1, tt + grow x, by omega, by go_num, rfl, by rw [Hm.out, Hd.out, Hs.out], by omega, by omega, HbB.out⟩
            case measure => simp [intOf]; omega
          · by_cases h2 : x.sp.lo ≤ i
            · have Hs := Lib.hid (show mvFrom i tt (x :: E.drop (k + 1)) = none by rw [mv_cons, if_neg h1, if_pos h2])
              go_wp2
              go_ret2
              exact MovedP.mk (Hmn.out (by rw [Hm.out, Hd.out, Hs.out])) rfl (hb1.trans (HbA.out.mono hb1.size))
            · have Hs := Lib.hid (show mvFrom i tt (x :: E.drop (k + 1)) = mvFrom i tt (E.drop (k + 1)) by rw [mv_cons, if_neg h1, if_neg h2])
              go_wp2
              go_roundw
              case rel => exact ⟨k + 1, tt, by omega, by go_num, rfl, by rw [Hm.out, Hd.out, Hs.out], by omega, by omega, HbA.out⟩
              case measure => simp [intOf]; omega
        · have hfin : mvFrom i i E = some tt := by rw [Hm.out, List.drop_of_length_le (by omega), mv_nil]
          have Hf := Lib.hid hfin
          clear hfin
          go_wp2
          go_ret2
          exact MovedP.mk (Hms.out tt Hf.out) rfl (hb1.trans (hbq.mono hb1.size))
    · have Hmo := Lib.hid (moved_out h0 (i := i) (by omega))
      clear h0
      by_cases hi1 : i < 0
      · clear hin
        go_enter Tryz.func21, Tryz.ntmps21
        go_wp2_with (go_at_call 53; refine Hed.out.mono ?_; rintro e w1 ⟨v1, rfl, _, hok, hb1⟩; rw [H0.out]; obtain ⟨hri, hown1⟩ := hok H0.out; obtain ⟨A3, c3, rfl, hA3⟩ := SlEd.of_own hown1)
        go_ret2
        exact MovedP.mk Hmo.out rfl hb1
      · have hi2 : (s.size : Int) < i := by omega
        clear hin
        go_enter Tryz.func21, Tryz.ntmps21
        go_wp2_with (go_at_call 53; refine Hed.out.mono ?_; rintro e w1 ⟨v1, rfl, _, hok, hb1⟩; rw [H0.out]; obtain ⟨hri, hown1⟩ := hok H0.out; obtain ⟨A3, c3, rfl, hA3⟩ := SlEd.of_own hown1)
        go_ret2
        exact MovedP.mk Hmo.out rfl hb1
  · have Hmo := Lib.hid (moved_err (i := i) h0)
    have H0 := Lib.hid h0
    have ht3 : ((splErr s l : Int) != 0) = true := by simp; omega
    clear h0
    go_enter Tryz.func21, Tryz.ntmps21
    go_wp2_with (go_at_call 53; refine Hed.out.mono ?_; rintro e w1 ⟨v, rfl, hn, _, hb1⟩; rw [hn H0.out])
    go_ret2
    exact MovedP.mk Hmo.out rfl hb1

end Go.Proofs.YtocogbllhmiefaaGreatDoor.Lx
