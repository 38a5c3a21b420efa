/- All that is yielded of the places of a row: gather. -/
import Derived.Test.YtoncdnelacolaaaGreatDoorAIterD
namespace Go.Proofs.YtoncdnelacolaaaGreatDoor.Ar
open Go Go.Proofs Go.RowKit Lx Ps
attribute [local go_sem] Oper.semAt_some

theorem lst_place {n0 B D : Nat} (f : List Pl → List Mv) : AbidesAl AnyO D (fun (pre : List Pl) W => Lst n0 B W (f pre)) := by
  rintro pre X Y row ⟨h1, h2, v, hv, ho⟩ hg hr
  refine ⟨h1, Nat.le_trans h2 hg.size, v, hv.kept hg (fun e => ?_), ho.kept hg ?_⟩
  · obtain ⟨_, o, ho2, ho3⟩ := hr B e.symm
    rw [show X.heap[B]? = _ from hv] at ho2
    injection ho2 with ho2
    subst ho2
    rcases ho3 with ho3 | ⟨cs, fr, ho3⟩
    · cases ho3
    · injection ho3 with _ q _
      exact absurd q (by decide)
  · rcases ho.2 with ⟨rfl, _⟩ | ⟨g, cap, cur, rfl, _, hgb, _⟩
    · exact .inl rfl
    · refine .inr (fun e => ?_)
      obtain ⟨_, o, ho2, ho3⟩ := hr g e.symm
      rw [hgb] at ho2
      injection ho2 with ho2
      subst ho2
      rcases ho3 with ho3 | ⟨cs, fr, ho3⟩
      · cases ho3
      · injection ho3 with _ q _
        exact absurd q (by decide)
theorem lst_own' {n0 B D : Nat} (f : List Pl → List Mv) : OwnFrom D (fun (pre : List Pl) W => Lst n0 B W (f pre)) := fun pre X Y row hs hg hr => lst_own (fun _ => f pre) [] X Y row hs hg hr
theorem full_place {β : Type} {n0 D : Nat} {W0 : World} (hn : n0 ≤ W0.heap.size) (hD : W0.heap.size ≤ D) : AbidesAl AnyO D (fun (_ : β) W => Full n0 W0 W) := by
  rintro s X Y row h hg hr
  refine ⟨h.below.grown hg (Nat.le_trans hn h.below.size) (fun r e => by have := (hr r e).1; omega), fun b o hb hc => ?_⟩
  have hlt := (Array.getElem?_eq_some_iff.1 hb).1
  exact (hg.block b (Nat.lt_of_lt_of_le hlt h.below.size) (fun e => by have := (hr b e.symm).1; omega)).trans (h.same b o hb hc)
theorem elder_place {β : Type} {D b : Nat} {o : Obj} (hb : b < D) : AbidesAl AnyO D (fun (_ : β) W => W.heap[b]? = some o) := by
  rintro s X Y row h hg hr
  exact (hg.block b (Array.getElem?_eq_some_iff.1 h).1 (fun e => by have := (hr b e.symm).1; omega)).trans h
theorem calm_of {t : TypeId} (cs : Array Value) (fr : Nat × Nat) (h1 : t ≠ 40) (h2 : t ≠ 32) : CalmO (.cells cs t fr) := .inr ⟨_, _, _, rfl, h1, h2⟩
theorem new_list (w : World) (o : Obj) : Lst w.heap.size (w.heap.size + 1) ((w.alloc o).alloc (.cells #[.slice none 0 0] 32)) [] := by
  refine ⟨Nat.le_succ _, by simp; omega, .slice none 0 0, ?_, World.ownsRow_nil _ _ _ _⟩
  have := Boxed.new (w.alloc o) 32 (.slice none 0 0)
  rwa [alloc_sz2] at this
theorem flat_prefix {α β : Type} (F : α → List β) {pre ps : List α} (h : pre <+: ps) : (pre.flatMap F).length ≤ (ps.flatMap F).length := by
  obtain ⟨r, rfl⟩ := h
  rw [List.flatMap_append, List.length_append]; omega

set_option maxRecDepth 100000 in
set_option maxHeartbeats 2000000 in
theorem gather_moves (gf : Nat) (bd lb : Array Value) (hand : Value → Array Value) (ps : List Pl) (F : Pl → List Mv) (w : World)
    (hh : ∀ (a : Act) (g : Operand), a.eval g = .func (.func gf) bd lb → Hands Tryz.prog Fence.wide a g gf hand)
    (hseq : ∀ V, Below w.heap.size w V → SeqAt AnyO Fence.wide 4 Tryz.prog gf hand encP (Kp w.heap.size) (fun ys => ys = ps) (fun pre => pre <+: ps) (fun pre x => pre ++ [x] <+: ps) V)
    (hpush : ∀ (p : Pl) (l : List Mv) (V : World), p ∈ ps → Lst w.heap.size (w.heap.size + 1) V l → l.length + 400 ≤ 1000000 → Calls Tryz.prog 62 #[plV p, yV (w.heap.size + 1)] V fun e W' => (∃ v, e = .returned v) ∧ Lst w.heap.size (w.heap.size + 1) W' (l ++ F p) ∧ Full w.heap.size V W')
    (hlen : (ps.flatMap F).length + 400 ≤ 1000000) :
    Calls Tryz.prog 60 #[.func (.func gf) bd lb, .func (.func 62) #[] #[]] w fun e w' => ∃ v, e = .returned v ∧ w'.ownsRow w.heap.size 40 4 v (ps.flatMap F).length (mvCells (ps.flatMap F)) ∧ Below w.heap.size w w' := by
  obtain ⟨k1, k2⟩ := blocks2 w (.cells #[.func (.func 62) #[] #[]] 87) (.cells #[.slice none 0 0] 32)
  have hb0 : Below w.heap.size w ((w.alloc (.cells #[.func (.func 62) #[] #[]] 87)).alloc (.cells #[.slice none 0 0] 32)) := below_two
  have hL0 := new_list w (.cells #[.func (.func 62) #[] #[]] 87)
  have hF0 := Full.of_below (Nat.le_refl _) hb0
  have hz0 : ((w.alloc (.cells #[.func (.func 62) #[] #[]] 87)).alloc (.cells #[.slice none 0 0] 32)).heap.size = w.heap.size + 2 := by simp
  have hsq := hseq _ hb0
  have hhx := hh
  clear hseq hh k2
  refine (callsIn_wide (n := 5)).1 ?_
  refine callsIn_of_wp_marks Tryz.func60 rfl trivial ?_ rfl
  simp only [Tryz.ntmps60, List.size_toArray, List.length_cons, List.length_nil, Nat.reduceAdd, Nat.reduceSub, Array.replicate_succ, Array.replicate_zero, List.push_toArray, List.append_toArray, List.nil_append, List.cons_append]
  have Hpush := Lib.hid hpush
  clear hpush
  generalize hRV : Value.func (.func gf) bd lb = RV at *
  have HRV := Lib.hid hRV
  clear hRV
  gi_wp2
  obtain ⟨W0, hW0⟩ : ∃ W0, (w.alloc (.cells #[.func (.func 62) #[] #[]] 87)).alloc (.cells #[.slice none 0 0] 32) = W0 := ⟨_, rfl⟩
  rw [hW0] at hL0 hF0 k1 hz0 hsq hb0 ⊢
  refine range_at (Al := AnyO) rfl (by omega) (hhx _ _ (by first | rfl | exact HRV.out.symm)) hsq Kp.trans (Kp.book (w := W0) (by omega)) (Below.refl _ _) (fun _ => rfl)
    (fun pre V => Lst w.heap.size (w.heap.size + 1) V (pre.flatMap F) ∧ Full w.heap.size w V ∧ V.heap[w.heap.size]? = some (.cells #[.func (.func 62) #[] #[]] 87 (0, 0))) (fun _ _ _ => False)
    (fun s X Y row hs hg hr => ⟨lst_own' (fun pre => pre.flatMap F) s X Y row hs.1 hg hr, full_own (β := Unit) (Nat.le_refl _) (by omega) () X Y row hs.2.1 hg hr, cells_own (β := Unit) () X Y row hs.2.2 hg hr⟩) (fun c _ _ _ _ h _ _ => h)
    (fun s X Y row hs hg hr => ⟨lst_place (fun pre => pre.flatMap F) s X Y row hs.1 hg hr, full_place (β := Unit) (Nat.le_refl _) (by omega) () X Y row hs.2.1 hg hr, elder_place (β := Unit) (show w.heap.size < W0.heap.size by omega) () X Y row hs.2.2 hg hr⟩) (fun c _ _ _ _ h _ _ => h)
    ⟨hL0, hF0, k1⟩
    (fun x a' V => ∃ b, V.heap[b]? = some (.cells #[.bool x.base.cell, .int .i64 x.base.n, .int .i64 (x.id : Int), .int .i64 (x.arg : Int), .bool x.jumps] 85 (0, 0)) ∧ a' = { tmps := #[RV, (.func (.func 62) #[] #[]), undef, .pointer (some ⟨w.heap.size, 0, none⟩), .slice none 0 0, .pointer (some ⟨w.heap.size + 1, 0, none⟩), .pointer (some ⟨b, 0, none⟩), RV, .agg #[.bool x.base.cell, .int .i64 x.base.n, .int .i64 (x.id : Int), .int .i64 (x.arg : Int), .bool x.jumps], undef, undef, undef, undef, undef], defers := [] })
    (fun x a' s X Y row ⟨b, hb, he⟩ hg hr => ⟨b, cells_own (β := Unit) () X Y row hb hg hr, he⟩)
    ?assign ?body ?done ?stop
  case assign =>
    rintro lY pre x V K hI hK
    dsimp only [encP, plV]
    gi_wp2
    refine hK _ _ ((KeepsOthers.alloc _ _).from _) (Full.kp ((Full.refl _ V).alloc hI.1.2.1 _)) ?_ ⟨V.heap.size, heap_alloc_new V _, rfl⟩
    exact ⟨hI.1.alloc _, hI.2.1.alloc hI.1.2.1 _, (Below.heap_alloc V _ _ (Array.getElem?_eq_some_iff.1 hI.2.2).1).trans hI.2.2⟩
  case body =>
    rintro lY pre x a' V _ _ hI ⟨b, hb, rfl⟩ hpfx
    have hHI := Lib.hid hI
    have cy := cell_of_one hI.2.2
    obtain ⟨⟨c0, c1, c2, c3, c4⟩, -, -⟩ := five_c hb
    have hlp := flat_prefix F hpfx
    rw [List.flatMap_append, List.length_append] at hlp
    have hpx := Hpush.out x _ V (hpfx.subset (by simp)) hI.1 (by omega)
    have Hpx := Lib.hid hpx
    clear hpx hI hb hlp hpfx
    unfold plV yV at Hpx
    gi_wp2_with (refine ⟨trivial, ?_⟩; gi_at_call 62; refine (CallsIn.inRound lY (callsIn_wide.2 Hpx.out)).mono ?_; rintro e w1 ⟨⟨v, rfl⟩, hL1, hF1⟩)
    refine ⟨hF1.others.from _, hF1.kp, ?_⟩
    exact ⟨by rw [List.flatMap_append]; simpa using hL1, hHI.out.2.1.trans hF1, hF1.same _ _ hHI.out.2.2 (calm_of _ _ (by decide) (by decide))⟩
  case done =>
    rintro D ys V hD rfl hI hK
    obtain ⟨⟨hB, hn, v, hv, hrow⟩, hF, hbx⟩ := hI
    obtain ⟨A, cap, rfl⟩ := own_slice hrow
    have cv := hv.cell
    have hFD := (full_own (β := Unit) (D := D) (Nat.le_refl w.heap.size) (by omega)).putObj (s := ()) (.deferred none) hF (Nat.le_refl _) hK rfl
    have hrD := ownsRow_putObj hrow (.deferred none) hK rfl
    gi_wp2
    refine ⟨by simp, .inl ⟨_, _, rfl, run_takeDeferred hK, ?_⟩⟩
    exact ⟨.slice A (ys.flatMap F).length cap, by simp only [results, Tryz.results60]; simp [go_sem], .slice A (ys.flatMap F).length cap, rfl, hrD, hFD.below⟩
  case stop =>
    rintro D c pre V _ _ h _
    exact h.elim

set_option maxRecDepth 100000 in
set_option maxHeartbeats 2000000 in
theorem gather_quests (gf : Nat) (bd lb : Array Value) (hand : Value → Array Value) (ps : List Pl) (F : Pl → List Mv) (w : World)
    (hh : ∀ (a : Act) (g : Operand), a.eval g = .func (.func gf) bd lb → Hands Tryz.prog Fence.wide a g gf hand)
    (hseq : ∀ V, Below w.heap.size w V → SeqAt AnyO Fence.wide 4 Tryz.prog gf hand encP (Kp w.heap.size) (fun ys => ys = ps) (fun pre => pre <+: ps) (fun pre x => pre ++ [x] <+: ps) V)
    (hpush : ∀ (p : Pl) (l : List Mv) (V : World), p ∈ ps → Lst w.heap.size (w.heap.size + 1) V l → l.length + 400 ≤ 1000000 → Calls Tryz.prog 80 #[plV p, yV (w.heap.size + 1)] V fun e W' => (∃ v, e = .returned v) ∧ Lst w.heap.size (w.heap.size + 1) W' (l ++ F p) ∧ Full w.heap.size V W')
    (hlen : (ps.flatMap F).length + 400 ≤ 1000000) :
    Calls Tryz.prog 60 #[.func (.func gf) bd lb, .func (.func 80) #[] #[]] w fun e w' => ∃ v, e = .returned v ∧ w'.ownsRow w.heap.size 40 4 v (ps.flatMap F).length (mvCells (ps.flatMap F)) ∧ Below w.heap.size w w' := by
  obtain ⟨k1, k2⟩ := blocks2 w (.cells #[.func (.func 80) #[] #[]] 87) (.cells #[.slice none 0 0] 32)
  have hb0 : Below w.heap.size w ((w.alloc (.cells #[.func (.func 80) #[] #[]] 87)).alloc (.cells #[.slice none 0 0] 32)) := below_two
  have hL0 := new_list w (.cells #[.func (.func 80) #[] #[]] 87)
  have hF0 := Full.of_below (Nat.le_refl _) hb0
  have hz0 : ((w.alloc (.cells #[.func (.func 80) #[] #[]] 87)).alloc (.cells #[.slice none 0 0] 32)).heap.size = w.heap.size + 2 := by simp
  have hsq := hseq _ hb0
  have hhx := hh
  clear hseq hh k2
  refine (callsIn_wide (n := 5)).1 ?_
  refine callsIn_of_wp_marks Tryz.func60 rfl trivial ?_ rfl
  simp only [Tryz.ntmps60, List.size_toArray, List.length_cons, List.length_nil, Nat.reduceAdd, Nat.reduceSub, Array.replicate_succ, Array.replicate_zero, List.push_toArray, List.append_toArray, List.nil_append, List.cons_append]
  have Hpush := Lib.hid hpush
  clear hpush
  generalize hRV : Value.func (.func gf) bd lb = RV at *
  have HRV := Lib.hid hRV
  clear hRV
  gi_wp2
  obtain ⟨W0, hW0⟩ : ∃ W0, (w.alloc (.cells #[.func (.func 80) #[] #[]] 87)).alloc (.cells #[.slice none 0 0] 32) = W0 := ⟨_, rfl⟩
  rw [hW0] at hL0 hF0 k1 hz0 hsq hb0 ⊢
  refine range_at (Al := AnyO) rfl (by omega) (hhx _ _ (by first | rfl | exact HRV.out.symm)) hsq Kp.trans (Kp.book (w := W0) (by omega)) (Below.refl _ _) (fun _ => rfl)
    (fun pre V => Lst w.heap.size (w.heap.size + 1) V (pre.flatMap F) ∧ Full w.heap.size w V ∧ V.heap[w.heap.size]? = some (.cells #[.func (.func 80) #[] #[]] 87 (0, 0))) (fun _ _ _ => False)
    (fun s X Y row hs hg hr => ⟨lst_own' (fun pre => pre.flatMap F) s X Y row hs.1 hg hr, full_own (β := Unit) (Nat.le_refl _) (by omega) () X Y row hs.2.1 hg hr, cells_own (β := Unit) () X Y row hs.2.2 hg hr⟩) (fun c _ _ _ _ h _ _ => h)
    (fun s X Y row hs hg hr => ⟨lst_place (fun pre => pre.flatMap F) s X Y row hs.1 hg hr, full_place (β := Unit) (Nat.le_refl _) (by omega) () X Y row hs.2.1 hg hr, elder_place (β := Unit) (show w.heap.size < W0.heap.size by omega) () X Y row hs.2.2 hg hr⟩) (fun c _ _ _ _ h _ _ => h)
    ⟨hL0, hF0, k1⟩
    (fun x a' V => ∃ b, V.heap[b]? = some (.cells #[.bool x.base.cell, .int .i64 x.base.n, .int .i64 (x.id : Int), .int .i64 (x.arg : Int), .bool x.jumps] 85 (0, 0)) ∧ a' = { tmps := #[RV, (.func (.func 80) #[] #[]), undef, .pointer (some ⟨w.heap.size, 0, none⟩), .slice none 0 0, .pointer (some ⟨w.heap.size + 1, 0, none⟩), .pointer (some ⟨b, 0, none⟩), RV, .agg #[.bool x.base.cell, .int .i64 x.base.n, .int .i64 (x.id : Int), .int .i64 (x.arg : Int), .bool x.jumps], undef, undef, undef, undef, undef], defers := [] })
    (fun x a' s X Y row ⟨b, hb, he⟩ hg hr => ⟨b, cells_own (β := Unit) () X Y row hb hg hr, he⟩)
    ?assign ?body ?done ?stop
  case assign =>
    rintro lY pre x V K hI hK
    dsimp only [encP, plV]
    gi_wp2
    refine hK _ _ ((KeepsOthers.alloc _ _).from _) (Full.kp ((Full.refl _ V).alloc hI.1.2.1 _)) ?_ ⟨V.heap.size, heap_alloc_new V _, rfl⟩
    exact ⟨hI.1.alloc _, hI.2.1.alloc hI.1.2.1 _, (Below.heap_alloc V _ _ (Array.getElem?_eq_some_iff.1 hI.2.2).1).trans hI.2.2⟩
  case body =>
    rintro lY pre x a' V _ _ hI ⟨b, hb, rfl⟩ hpfx
    have hHI := Lib.hid hI
    have cy := cell_of_one hI.2.2
    obtain ⟨⟨c0, c1, c2, c3, c4⟩, -, -⟩ := five_c hb
    have hlp := flat_prefix F hpfx
    rw [List.flatMap_append, List.length_append] at hlp
    have hpx := Hpush.out x _ V (hpfx.subset (by simp)) hI.1 (by omega)
    have Hpx := Lib.hid hpx
    clear hpx hI hb hlp hpfx
    unfold plV yV at Hpx
    gi_wp2_with (refine ⟨trivial, ?_⟩; gi_at_call 80; refine (CallsIn.inRound lY (callsIn_wide.2 Hpx.out)).mono ?_; rintro e w1 ⟨⟨v, rfl⟩, hL1, hF1⟩)
    refine ⟨hF1.others.from _, hF1.kp, ?_⟩
    exact ⟨by rw [List.flatMap_append]; simpa using hL1, hHI.out.2.1.trans hF1, hF1.same _ _ hHI.out.2.2 (calm_of _ _ (by decide) (by decide))⟩
  case done =>
    rintro D ys V hD rfl hI hK
    obtain ⟨⟨hB, hn, v, hv, hrow⟩, hF, hbx⟩ := hI
    obtain ⟨A, cap, rfl⟩ := own_slice hrow
    have cv := hv.cell
    have hFD := (full_own (β := Unit) (D := D) (Nat.le_refl w.heap.size) (by omega)).putObj (s := ()) (.deferred none) hF (Nat.le_refl _) hK rfl
    have hrD := ownsRow_putObj hrow (.deferred none) hK rfl
    gi_wp2
    refine ⟨by simp, .inl ⟨_, _, rfl, run_takeDeferred hK, ?_⟩⟩
    exact ⟨.slice A (ys.flatMap F).length cap, by simp only [results, Tryz.results60]; simp [go_sem], .slice A (ys.flatMap F).length cap, rfl, hrD, hFD.below⟩
  case stop =>
    rintro D c pre V _ _ h _
    exact h.elim

end Go.Proofs.YtoncdnelacolaaaGreatDoor.Ar
