/- All moves of a place, handed to the closure that appends. -/
import Derived.Test.YtoncdnelacolaaaGreatDoorAIterB
namespace Go.Proofs.YtoncdnelacolaaaGreatDoor.Ar
open Go Go.Proofs Go.RowKit Lx Ps
attribute [local go_sem] Oper.semAt_some

theorem cells_own {β : Type} {D b : Nat} {cs : Array Value} {t : TypeId} {fr : Nat × Nat} : OwnFrom D (fun (_ : β) W => W.heap[b]? = some (.cells cs t fr)) := by
  rintro s X Y row h hg hr
  refine (hg.block b (Array.getElem?_eq_some_iff.1 h).1 (fun e => ?_)).trans h
  obtain ⟨_, o, ho, hc⟩ := hr b e.symm
  rw [h] at ho; cases ho; cases hc
theorem elder_own {β : Type} {D b : Nat} {o : Obj} (hb : b < D) : OwnFrom D (fun (_ : β) W => W.heap[b]? = some o) := by
  rintro s X Y row h hg hr
  exact (hg.block b (Array.getElem?_eq_some_iff.1 h).1 (fun e => by have := (hr b e.symm).1; omega)).trans h
theorem calm_func (cs : Array Value) (fr : Nat × Nat) : CalmO (.cells cs 96 fr) := .inr ⟨_, _, _, rfl, by decide, by decide⟩
theorem calm_other {o : Obj} (h : o.isCells = false) : CalmO o := .inl h

/-- What holds in the rounds of moves. -/
def MvIn (n0 B : Nat) (W : World) (p : Pl) (l pre : List Mv) (V : World) : Prop :=
  Lst n0 B V (l ++ pre) ∧ Full n0 W V ∧ V.heap[W.heap.size]? = some (plB p) ∧ V.heap[W.heap.size + 1]? = some (.cells #[yV B] 96 (0, 0))
theorem mvIn_own {n0 B D : Nat} {W : World} {p : Pl} {l : List Mv} (hn : n0 ≤ W.heap.size) (hD : W.heap.size ≤ D) : OwnFrom D (fun (pre : List Mv) V => MvIn n0 B W p l pre V) := by
  rintro pre X Y row ⟨h1, h2, h3, h4⟩ hg hr
  exact ⟨lst_own (fun pre => l ++ pre) pre X Y row h1 hg hr, full_own (β := Unit) hn hD () X Y row h2 hg hr, cells_own (β := Unit) () X Y row h3 hg hr, cells_own (β := Unit) () X Y row h4 hg hr⟩

set_option maxRecDepth 100000 in
set_option maxHeartbeats 2000000 in
theorem moves_push (n0 B N : Nat) (p : Pl) (l : List Mv) (W : World) (h : Lst n0 B W l) (hN : p.base.n = (N : Int)) (hN2 : N ≤ 64) (hl : l.length + 400 ≤ 1000000) :
    Calls Tryz.prog 62 #[plV p, yV B] W fun e W' => (∃ v, e = .returned v) ∧ Lst n0 B W' (l ++ movesP p) ∧ Full n0 W W' := by
  have hn0 := h.2.1
  obtain ⟨k1, k2⟩ := blocks2 W (plB p) (.cells #[yV B] 96)
  have hF0 : Full n0 W ((W.alloc (plB p)).alloc (.cells #[yV B] 96)) := ((Full.refl n0 W).alloc hn0 _).alloc (by rw [alloc_sz2]; omega) _
  have hL0 : Lst n0 B ((W.alloc (plB p)).alloc (.cells #[yV B] 96)) l := (h.alloc _).alloc _
  have hz0 : ((W.alloc (plB p)).alloc (.cells #[yV B] 96)).heap.size = W.heap.size + 2 := by simp
  have hlq : (questP p).length ≤ 65 := by
    unfold questP putsL; rw [hN]; split <;> simp <;> omega
  have hla : (ansP p).length ≤ 65 := by
    unfold ansP tellP tellsL; rw [hN]; split <;> simp <;> omega
  refine (callsIn_wide (n := 5)).1 ?_
  refine callsIn_of_wp_marks Tryz.func62 rfl trivial ?_ rfl
  simp only [Tryz.ntmps62, List.size_toArray, List.length_cons, List.length_nil, Nat.reduceAdd, Nat.reduceSub, Array.replicate_succ, Array.replicate_zero, List.push_toArray, List.append_toArray, List.nil_append, List.cons_append]
  have hpush := fun m l V (hV : Lst n0 B V l) hl => push_any n0 B m l V hV hl
  have Hpush := Lib.hid hpush
  clear hpush
  have hseq := quest_seq (Al := WalkO) 4 n0 N p ((W.alloc (plB p)).alloc (.cells #[yV B] 96)) (by omega) (by omega) hN hN2
  have hI0 : MvIn n0 B W p l [] ((W.alloc (plB p)).alloc (.cells #[yV B] 96)) := ⟨by simpa using hL0, hF0, k1, k2⟩
  have HN := Lib.hid hN
  clear h hF0 hL0 k1 k2 hN
  unfold plV yV
  gi_wp2
  obtain ⟨W0, hW0⟩ : ∃ W0, (W.alloc (plB p)).alloc (.cells #[yV B] 96) = W0 := ⟨_, rfl⟩
  unfold plB yV at hW0
  unfold plB yV at hI0 hseq hz0
  rw [hW0] at hI0 hseq hz0 ⊢
  refine range_at (Al := WalkO) rfl (by omega) (hands_bound rfl trivial (enters_of Tryz.func80 (by kernel_rfl) rfl)) hseq Kp.trans (Kp.book (w := W0) (by omega)) (Below.refl _ _) (fun _ => rfl)
    (fun pre V => MvIn n0 B W p l pre V) (fun _ _ _ => False) (mvIn_own hn0 (by omega)) (fun c _ _ _ _ h _ _ => h) (abidesAl_of_own (mvIn_own hn0 (by omega))) (fun c _ _ _ _ h _ _ => h) hI0
    (fun x a' V => ∃ b, V.heap[b]? = some (.cells #[.int .i64 x.id, .int .i64 x.arg, .int .u8 (x.kind : Int), .int .i64 x.n] 40 (0, 0)) ∧ a' = { tmps := #[.agg #[.bool p.base.cell, .int .i64 p.base.n, .int .i64 (p.id : Int), .int .i64 (p.arg : Int), .bool p.jumps], .func (.func 110) #[] #[.pointer (some ⟨B, 0, none⟩)], .pointer (some ⟨W.heap.size, 0, none⟩), .pointer (some ⟨W.heap.size + 1, 0, none⟩), .pointer (some ⟨b, 0, none⟩), undef, .agg #[.bool p.base.cell, .int .i64 p.base.n, .int .i64 (p.id : Int), .int .i64 (p.arg : Int), .bool p.jumps], .func (.func 80) #[.agg #[.bool p.base.cell, .int .i64 p.base.n, .int .i64 (p.id : Int), .int .i64 (p.arg : Int), .bool p.jumps]] #[], .agg #[.int .i64 x.id, .int .i64 x.arg, .int .u8 (x.kind : Int), .int .i64 x.n], undef, undef, undef, undef, undef, undef, undef, undef, undef, undef, undef], defers := [] })
    (fun x a' s X Y row ⟨b, hb, he⟩ hg hr => ⟨b, cells_own (β := Unit) () X Y row hb hg hr, he⟩)
    ?assign ?body ?done ?stop
  case assign =>
    rintro lY pre x V K hI hK
    dsimp only [encM, mvV]
    gi_wp2
    refine hK _ _ ((KeepsOthers.alloc _ _).from _) (Full.kp ((Full.refl n0 V).alloc hI.1.2.1 _)) ?_ ⟨V.heap.size, heap_alloc_new V _, rfl⟩
    exact ⟨hI.1.alloc _, hI.2.1.alloc hI.1.2.1 _, (Below.heap_alloc V _ _ (Array.getElem?_eq_some_iff.1 hI.2.2.1).1).trans hI.2.2.1, (Below.heap_alloc V _ _ (Array.getElem?_eq_some_iff.1 hI.2.2.2).1).trans hI.2.2.2⟩
  case body =>
    rintro lY pre x a' V _ _ hI ⟨b, hb, rfl⟩ hpfx
    have hlt : pre.length < (questP p).length := by have := hpfx.length_le; simp at this; omega
    clear hpfx
    have hHI := Lib.hid hI
    have hHb := Lib.hid hb
    have cy := cell_of_one hI.2.2.2
    obtain ⟨⟨c0, c1, c2, c3⟩, -, -⟩ := four_c hb
    have hpx : Calls Tryz.prog 110 #[.agg #[.int .i64 x.id, .int .i64 x.arg, .int .u8 (x.kind : Int), .int .i64 x.n], .pointer (some ⟨B, 0, none⟩)] V fun e W' => e = .returned (.bool true) ∧ Lst n0 B W' (l ++ pre ++ [x]) ∧ Full n0 V W' := Hpush.out x _ V hI.1 (by simp; omega)
    have Hpx := Lib.hid hpx
    clear hpx hI hb
    unfold yV at cy
    gi_wp2_with (refine ⟨trivial, ?_⟩; gi_at_call 110; refine (CallsIn.inRound lY (callsIn_wide.2 Hpx.out)).mono ?_; rintro e w1 ⟨rfl, hL1, hF1⟩)
    refine ⟨hF1.others.from _, hF1.kp, ?_⟩
    exact ⟨by rw [← List.append_assoc]; exact hL1, hHI.out.2.1.trans hF1, hF1.same _ _ hHI.out.2.2.1 (plB_calm p), hF1.same _ _ hHI.out.2.2.2 (calm_func _ _)⟩
  case done =>
    rintro D ys V hD rfl hI hK
    have hDl : D < V.heap.size := (Array.getElem?_eq_some_iff.1 hK).1
    have hVz : W.heap.size ≤ V.heap.size := hI.2.1.below.size
    have hnV : n0 ≤ V.heap.size := hI.1.2.1
    have hseq2 := ans_seq (Al := WalkO) 4 n0 N p V hnV HN.out hN2
    have hI2 : MvIn n0 B W p (l ++ questP p) [] V := ⟨by simpa using hI.1, hI.2⟩
    have HI2 := Lib.hid hI2
    obtain ⟨⟨c0, c1, c2, c3, c4⟩, -, -⟩ := five_c hI.2.2.1
    have HK := Lib.hid hK
    have HW0 := Lib.hid hz0
    clear hI hI2 hI0 hseq hW0 hK hz0
    gi_wp2
    refine range_at (Al := WalkO) rfl (by omega) (hands_bound rfl trivial (enters_of Tryz.func77 (by kernel_rfl) rfl)) hseq2 Kp.trans (Kp.book (w := V) (by omega)) (Below.refl _ _) (fun _ => rfl)
      (fun pre U => MvIn n0 B W p (l ++ questP p) pre U ∧ U.heap[D]? = some (.deferred (some []))) (fun _ _ _ => False)
      (fun s X Y row hs hg hr => ⟨mvIn_own hn0 hVz s X Y row hs.1 hg hr, elder_own (β := Unit) hDl () X Y row hs.2 hg hr⟩) (fun c _ _ _ _ h _ _ => h) (abidesAl_of_own (fun s X Y row hs hg hr => ⟨mvIn_own hn0 hVz s X Y row hs.1 hg hr, elder_own (β := Unit) hDl () X Y row hs.2 hg hr⟩)) (fun c _ _ _ _ h _ _ => h) ⟨HI2.out, HK.out⟩
      (fun x a' U => ∃ b, U.heap[b]? = some (.cells #[.int .i64 x.id, .int .i64 x.arg, .int .u8 (x.kind : Int), .int .i64 x.n] 40 (0, 0)) ∧ a' = { tmps := #[.agg #[.bool p.base.cell, .int .i64 p.base.n, .int .i64 (p.id : Int), .int .i64 (p.arg : Int), .bool p.jumps], .func (.func 110) #[] #[.pointer (some ⟨B, 0, none⟩)], .pointer (some ⟨W.heap.size, 0, none⟩), .pointer (some ⟨W.heap.size + 1, 0, none⟩), undef, .pointer (some ⟨b, 0, none⟩), .agg #[.bool p.base.cell, .int .i64 p.base.n, .int .i64 (p.id : Int), .int .i64 (p.arg : Int), .bool p.jumps], .func (.func 80) #[.agg #[.bool p.base.cell, .int .i64 p.base.n, .int .i64 (p.id : Int), .int .i64 (p.arg : Int), .bool p.jumps]] #[], undef, undef, undef, undef, undef, .agg #[.bool p.base.cell, .int .i64 p.base.n, .int .i64 (p.id : Int), .int .i64 (p.arg : Int), .bool p.jumps], .func (.func 77) #[.agg #[.bool p.base.cell, .int .i64 p.base.n, .int .i64 (p.id : Int), .int .i64 (p.arg : Int), .bool p.jumps]] #[], .agg #[.int .i64 x.id, .int .i64 x.arg, .int .u8 (x.kind : Int), .int .i64 x.n], undef, undef, undef, undef], defers := [] })
      (fun x a' s X Y row ⟨b, hb, he⟩ hg hr => ⟨b, cells_own (β := Unit) () X Y row hb hg hr, he⟩)
      ?assign2 ?body2 ?done2 ?stop2
    case assign2 =>
      rintro lY pre x U K hI hK
      dsimp only [encM, mvV]
      gi_wp2
      refine hK _ _ ((KeepsOthers.alloc _ _).from _) (Full.kp ((Full.refl n0 U).alloc hI.1.1.2.1 _)) ?_ ⟨U.heap.size, heap_alloc_new U _, rfl⟩
      exact ⟨⟨hI.1.1.alloc _, hI.1.2.1.alloc hI.1.1.2.1 _, (Below.heap_alloc U _ _ (Array.getElem?_eq_some_iff.1 hI.1.2.2.1).1).trans hI.1.2.2.1, (Below.heap_alloc U _ _ (Array.getElem?_eq_some_iff.1 hI.1.2.2.2).1).trans hI.1.2.2.2⟩, (Below.heap_alloc U _ _ (Array.getElem?_eq_some_iff.1 hI.2).1).trans hI.2⟩
    case body2 =>
      rintro lY pre x a' U _ _ hI ⟨b, hb, rfl⟩ hpfx
      have hlt : pre.length < (ansP p).length := by have := hpfx.length_le; simp at this; omega
      clear hpfx
      have hHI := Lib.hid hI
      have cy := cell_of_one hI.1.2.2.2
      obtain ⟨⟨c0, c1, c2, c3⟩, -, -⟩ := four_c hb
      have hpx : Calls Tryz.prog 110 #[.agg #[.int .i64 x.id, .int .i64 x.arg, .int .u8 (x.kind : Int), .int .i64 x.n], .pointer (some ⟨B, 0, none⟩)] U fun e W' => e = .returned (.bool true) ∧ Lst n0 B W' (l ++ questP p ++ pre ++ [x]) ∧ Full n0 U W' := Hpush.out x _ U hI.1.1 (by simp; omega)
      have Hpx := Lib.hid hpx
      clear hpx hI hb
      unfold yV at cy
      gi_wp2_with (refine ⟨trivial, ?_⟩; gi_at_call 110; refine (CallsIn.inRound lY (callsIn_wide.2 Hpx.out)).mono ?_; rintro e w1 ⟨rfl, hL1, hF1⟩)
      refine ⟨hF1.others.from _, hF1.kp, ?_⟩
      exact ⟨⟨by rw [← List.append_assoc]; exact hL1, hHI.out.1.2.1.trans hF1, hF1.same _ _ hHI.out.1.2.2.1 (plB_calm p), hF1.same _ _ hHI.out.1.2.2.2 (calm_func _ _)⟩, hF1.same _ _ hHI.out.2 (calm_other rfl)⟩
    case done2 =>
      rintro D2 ys V2 hD2 rfl hI3 hK2
      have hne : D ≠ D2 := by omega
      have hK1 : (V2.putObj D2 (.deferred none)).heap[D]? = some (.deferred (some [])) := (World.putObj_heap_other hne).trans hI3.2
      have hL3 := (mvIn_own (B := B) (p := p) (l := l ++ questP p) hn0 hVz).putObj (s := ansP p) (.deferred none) hI3.1 hD2 hK2 rfl
      have hL4 := (mvIn_own (B := B) (p := p) (l := l ++ questP p) hn0 (show W.heap.size ≤ D by have := HW0.out; omega)).putObj (s := ansP p) (.deferred none) hL3 (Nat.le_refl _) hK1 rfl
      gi_wp2
      refine ⟨by simp, .inl ⟨_, _, rfl, run_takeDeferred hK2, by simp, .inl ⟨_, _, rfl, run_takeDeferred hK1, ?_⟩⟩⟩
      refine ⟨.tuple #[], by simp [results, Tryz.results62], ⟨_, rfl⟩, ?_, hL4.2.1⟩
      have := hL4.1
      unfold movesP
      rw [← List.append_assoc]
      exact this
    case stop2 =>
      rintro D2 c pre V2 _ _ h _
      exact h.elim
  case stop =>
    rintro D c pre V _ _ h _
    exact h.elim

end Go.Proofs.YtoncdnelacolaaaGreatDoor.Ar
