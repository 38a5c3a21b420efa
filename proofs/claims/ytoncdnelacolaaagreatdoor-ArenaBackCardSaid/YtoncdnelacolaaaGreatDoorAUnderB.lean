/- Under: the questions that a question allows. -/
import Derived.Test.YtoncdnelacolaaaGreatDoorAGather
import Derived.Test.YtoncdnelacolaaaGreatDoorAMoves
import Derived.Test.YtoncdnelacolaaaGreatDoorAWalkH
import Derived.Deep.RegionWith
namespace Go.Proofs.YtoncdnelacolaaaGreatDoor.Ar
open Go Go.Proofs Go.RowKit Lx Ps
attribute [local go_sem] Oper.semAt_some

def argOf (p q : Pl) : Bool := q.id == p.id && decide (0 < q.arg)
/-- The test of a place: a function, or a closure over the place's variable. -/
def isV (p : Pl) (Bp : Nat) : Value := if isId p then .func (.func 123) #[] #[.pointer (some ⟨Bp, 0, none⟩)] else .func (.func 73) #[] #[]

set_option maxHeartbeats 400000 in
theorem allowed_any (p : Pl) (w : World) :
    Calls Tryz.prog 79 #[plV p] w fun e w' => e = .returned (isV p w.heap.size) ∧ Below w.heap.size w w' ∧ w'.heap[w.heap.size]? = some (.cells #[.bool p.base.cell, .int .i64 p.base.n, .int .i64 (p.id : Int), .int .i64 (p.arg : Int), .bool p.jumps] 85 (0, 0)) := by
  have hI := fun W => isId_any p W
  have hbx := heap_alloc_new w (.cells #[.bool p.base.cell, .int .i64 p.base.n, .int .i64 (p.id : Int), .int .i64 (p.arg : Int), .bool p.jumps] 85)
  have hb0 : Below w.heap.size w (w.alloc (.cells #[.bool p.base.cell, .int .i64 p.base.n, .int .i64 (p.id : Int), .int .i64 (p.arg : Int), .bool p.jumps] 85)) := (Below.refl _ _).alloc (Nat.le_refl _) _
  unfold isV
  have HB := Lib.hid hbx
  cases h : isId p
  · rw [h] at hI
    have HI := Lib.hid hI
    clear hI h hbx
    unfold plV at *
    go_enter Tryz.func79, Tryz.ntmps79
    go_wp2_with (go_at_call 73; refine (HI.out _).mono ?_; rintro r w1 ⟨rfl, hb1⟩; have hk := Lib.hid (heap_below hb1 (by rw [alloc_sz2]; omega) HB.out))
    go_ret
    exact ⟨rfl, hb0.trans (hb1.mono hb0.size), hk.out⟩
  · rw [h] at hI
    have HI := Lib.hid hI
    clear hI h hbx
    unfold plV at *
    go_enter Tryz.func79, Tryz.ntmps79
    go_wp2_with (go_at_call 73; refine (HI.out _).mono ?_; rintro r w1 ⟨rfl, hb1⟩; have hk := Lib.hid (heap_below hb1 (by rw [alloc_sz2]; omega) HB.out))
    go_ret
    exact ⟨rfl, hb0.trans (hb1.mono hb0.size), hk.out⟩

set_option maxHeartbeats 400000 in
theorem allowed1_any (p q : Pl) (Bp : Nat) (w : World) (hp : w.heap[Bp]? = some (.cells #[.bool p.base.cell, .int .i64 p.base.n, .int .i64 (p.id : Int), .int .i64 (p.arg : Int), .bool p.jumps] 85 (0, 0))) :
    Calls Tryz.prog 123 #[plV q, .pointer (some ⟨Bp, 0, none⟩)] w fun e w' => e = .returned (.bool (argOf p q)) ∧ Below w.heap.size w w' := by
  obtain ⟨⟨c0, c1, c2, c3, c4⟩, -, hlt⟩ := five_c hp
  clear hp
  unfold plV
  have hb0 : Below w.heap.size w (w.alloc (.cells #[.bool q.base.cell, .int .i64 q.base.n, .int .i64 (q.id : Int), .int .i64 (q.arg : Int), .bool q.jumps] 85)) := (Below.refl _ _).alloc (Nat.le_refl _) _
  by_cases h : q.id = p.id
  · have h1 : ((q.id : Int) == (p.id : Int)) = true := by rw [beq_iff_eq]; omega
    have H := Lib.hid h
    clear h
    go_enter Tryz.func123, Tryz.ntmps123
    go_wp2
    go_ret
    exact ⟨ret_bool (by unfold argOf; rw [H.out]; rw [Bool.eq_iff_iff]; simp), hb0⟩
  · have h1 : ((q.id : Int) == (p.id : Int)) = false := by rw [beq_eq_false_iff_ne]; omega
    have H := Lib.hid h
    clear h
    go_enter Tryz.func123, Tryz.ntmps123
    go_wp2
    go_ret
    exact ⟨ret_bool (by have := H.out; unfold argOf; rw [Bool.eq_iff_iff]; simp [this]), hb0⟩

set_option maxHeartbeats 400000 in
theorem placesThat_any (ids isF : Value) (a : Ar) (A : Option Addr) (n c : Nat) (hids : ids = .slice A n c) (fn : Fn) (fi lb : Array Value) (hisF : isF = .func fn fi lb) (w : World) :
    Calls Tryz.prog 78 #[arV ids a, isF] w fun e w' => e = .returned (.func (.func 122) #[] #[.pointer (some ⟨w.heap.size, 0, none⟩), .pointer (some ⟨w.heap.size + 1, 0, none⟩)]) ∧
      (w.alloc (.cells #[ids, .bool a.root.cell, .int .i64 a.root.n, .bool a.jumps] 80)).alloc (.cells #[isF] 102) = w' := by
  subst hids hisF
  unfold arV
  go_enter Tryz.func78, Tryz.ntmps78
  go_wp2
  go_ret
  exact ⟨rfl, rfl⟩

theorem roundIn_in {P : Program} {m m' l l2 : Nat} {f : FuncId} {tmps : Array Value} {assign body : Code} {w : World} {R : Ending → World → Prop} (h : RoundIn Fence.wide m P l f tmps assign body w R) : RoundIn (Fence.wide.inRound l2) m' P l f tmps assign body w R :=
  ⟨h.1, fun c cs _ => h.2 c cs (fun _ hd => by simp [Fence.wide] at hd)⟩
theorem filter_prefix {α : Type} (f : α → Bool) {pre ps : List α} (h : pre <+: ps) : pre.filter f <+: ps.filter f := by
  obtain ⟨r, rfl⟩ := h
  exact ⟨r.filter f, (List.filter_append ..).symm⟩
theorem box_any {D b : Nat} {o : Obj} (hb : b < D) : AbidesAl AnyO D (fun (_ : List Pl) W => W.heap[b]? = some o) := by
  rintro s X Y row h hg hr
  exact (hg.block b (Array.getElem?_eq_some_iff.1 h).1 (fun e => by have := (hr b e.symm).1; omega)).trans h

set_option maxRecDepth 100000 in
set_option maxHeartbeats 2000000 in
theorem that_id (n : Nat) (ids : Value) (a : Ar) (Br Bi : Nat) (w0 w : World) (hin : ArIn w0 ids a) (hw : Below w0.heap.size w0 w)
    (hr : w0.heap[Br]? = some (.cells #[ids, .bool a.root.cell, .int .i64 a.root.n, .bool a.jumps] 80 (0, 0))) (hi : w0.heap[Bi]? = some (.cells #[.func (.func 73) #[] #[]] 102 (0, 0))) :
    SeqAt AnyO Fence.wide n Tryz.prog 122 (fun y => #[y] ++ #[.pointer (some ⟨Br, 0, none⟩), .pointer (some ⟨Bi, 0, none⟩)]) encP (Kp w0.heap.size)
      (fun ys => ys = (placesL a).filter isId) (fun pre => pre <+: (placesL a).filter isId) (fun pre x => pre ++ [x] <+: (placesL a).filter isId) w := by
  intro lY J Jx W hW hJ hJx hY h0
  have hcall : ∀ (x : Pl) (V : World), Below w0.heap.size w0 V → Calls Tryz.prog 73 (#[plV x] ++ #[]) V fun r V' => r = .returned (.bool (isId x)) ∧ Below V.heap.size V V' := fun x V hbV => isId_any x V
  have hw2 : Below w0.heap.size w0 W := hw.trans (hW.mono hw.size)
  have hb0 : Below W.heap.size W (W.alloc (.cells #[.func (.yield lY) #[] #[]] 102)) := (Below.refl _ _).alloc (Nat.le_refl _) _
  have hbx := heap_alloc_new W (.cells #[.func (.yield lY) #[] #[]] 102)
  have hseq := places_seq 4 ids a w0 (W.alloc (.cells #[.func (.yield lY) #[] #[]] 102)) (by omega) hin (hw2.trans (hb0.mono hw2.size))
  have hrW := (hw2.block Br (Array.getElem?_eq_some_iff.1 hr).1).trans hr
  have hiLt := (Array.getElem?_eq_some_iff.1 hi).1
  obtain ⟨A, cap, rfl, -⟩ := hin.sl
  refine (callsIn_wide (n := n)).2 ((callsIn_wide (n := 5)).1 ?_)
  show CallsIn Fence.wide 5 Tryz.prog _ #[_, _, _] W _
  refine callsIn_of_wp_marks Tryz.func122 rfl trivial ?_ rfl
  simp only [Tryz.ntmps122, List.size_toArray, List.length_cons, List.length_nil, Nat.reduceAdd, Nat.reduceSub, Array.replicate_succ, Array.replicate_zero, List.push_toArray, List.append_toArray, List.nil_append, List.cons_append]
  have hrl := (Array.getElem?_eq_some_iff.1 hrW).1
  obtain ⟨⟨r0, r1, r2, r3⟩, -, -⟩ := four_c hrW
  have HY := Lib.hid hY
  have HJ := Lib.hid hJ
  have HJx := Lib.hid hJx
  have HC := Lib.hid hcall
  have hz : (W.alloc (.cells #[.func (.yield lY) #[] #[]] 102)).heap.size = W.heap.size + 1 := by simp
  have hJ0 := abides_next hJ h0 hb0
  have hbl := hw2.trans (hb0.mono hw2.size)
  have hii := Lib.hid hi
  clear hY hcall hin hrW hi hr h0 hJ hJx
  unfold arV at *
  gi_wp2
  obtain ⟨W0, hW0⟩ : ∃ W0, W.alloc (.cells #[.func (.yield lY) #[] #[]] 102) = W0 := ⟨_, rfl⟩
  rw [hW0] at hb0 hbx hseq hz hJ0 hbl ⊢
  have hAl : AbidesAl AnyO W0.heap.size (fun (pre : List Pl) V => J (pre.filter isId) V ∧ Below w0.heap.size w0 V ∧ V.heap[W.heap.size]? = some (.cells #[.func (.yield lY) #[] #[]] 102 (0, 0))) := fun s X Y row hs hg hrr =>
    ⟨HJ.out _ X Y row hs.1 hg (fun r e => ⟨Nat.le_trans hb0.size (hrr r e).1, (hrr r e).2⟩), hs.2.1.grown hg hs.2.1.size (fun r e => Nat.le_trans hbl.size (hrr r e).1), box_any (show W.heap.size < W0.heap.size by omega) s X Y row hs.2.2 hg hrr⟩
  have hAlx : ∀ c : Code, AbidesAl AnyO W0.heap.size (fun (_ : List Pl) V => c = .ret ∧ ∃ pre', pre' <+: (placesL a).filter isId ∧ Jx pre' V) := fun c s X Y row hs hg hrr => by
    obtain ⟨hc, pre', h1, h2⟩ := hs
    exact ⟨hc, pre', h1, HJx.out _ X Y row h2 hg (fun r e => ⟨Nat.le_trans hb0.size (hrr r e).1, (hrr r e).2⟩)⟩
  refine range_at (Al := AnyO) rfl (by omega) (hands_bound rfl trivial (enters_of Tryz.func61 (by kernel_rfl) rfl)) hseq Kp.trans (Kp.book (w := W0) hbl.size) (Below.refl _ _) (fun _ => rfl)
    (fun pre V => J (pre.filter isId) V ∧ Below w0.heap.size w0 V ∧ V.heap[W.heap.size]? = some (.cells #[.func (.yield lY) #[] #[]] 102 (0, 0))) (fun c _ V => c = .ret ∧ ∃ pre', pre' <+: (placesL a).filter isId ∧ Jx pre' V)
    (fun s X Y row hs hg hrr => hAl s X Y row hs hg (fun r e => ⟨(hrr r e).1, by obtain ⟨_, o, h1, h2⟩ := hrr r e; exact ⟨o, h1, .inl h2⟩⟩)) (fun c s X Y row hs hg hrr => hAlx c s X Y row hs hg (fun r e => ⟨(hrr r e).1, by obtain ⟨_, o, h1, h2⟩ := hrr r e; exact ⟨o, h1, .inl h2⟩⟩))
    hAl hAlx ⟨hJ0, hbl, hbx⟩
    (fun x a' V => ∃ b, V.heap[b]? = some (.cells #[.bool x.base.cell, .int .i64 x.base.n, .int .i64 (x.id : Int), .int .i64 (x.arg : Int), .bool x.jumps] 85 (0, 0)) ∧ a' = { tmps := #[.func (.yield lY) #[] #[], .pointer (some ⟨Br, 0, none⟩), .pointer (some ⟨Bi, 0, none⟩), .pointer (some ⟨W.heap.size, 0, none⟩), .pointer (some ⟨b, 0, none⟩), .agg #[.slice A a.ids.length cap, .bool a.root.cell, .int .i64 a.root.n, .bool a.jumps], .func (.func 61) #[.agg #[.slice A a.ids.length cap, .bool a.root.cell, .int .i64 a.root.n, .bool a.jumps]] #[], .agg #[.bool x.base.cell, .int .i64 x.base.n, .int .i64 (x.id : Int), .int .i64 (x.arg : Int), .bool x.jumps], undef, undef, undef, undef, undef, undef, undef, undef, undef], defers := [] })
    (fun x a' s X Y row ⟨b, hb, he⟩ hg hr => ⟨b, cells_own (β := Unit) () X Y row hb hg hr, he⟩)
    ?assign ?body ?done ?stop
  case assign =>
    rintro l2 pre x V K hI hK
    dsimp only [encP, plV]
    gi_wp2
    have hal : Below V.heap.size V (V.alloc (.cells #[.bool x.base.cell, .int .i64 x.base.n, .int .i64 (x.id : Int), .int .i64 (x.arg : Int), .bool x.jumps] 85)) := (Below.refl _ _).alloc (Nat.le_refl _) _
    refine hK _ _ ((KeepsOthers.alloc _ _).from _) (Full.kp (Full.of_below hI.2.1.size hal)) ?_ ⟨V.heap.size, heap_alloc_new V _, rfl⟩
    exact ⟨HJ.out _ _ _ none hI.1 (grown_of_below hal) (fun r e => by cases e), hI.2.1.trans (hal.mono hI.2.1.size), (Below.heap_alloc V _ _ (Array.getElem?_eq_some_iff.1 hI.2.2).1).trans hI.2.2⟩
  case body =>
    rintro l2 pre x a' V _ _ hI ⟨b, hb, rfl⟩ hpfx
    have hHI := Lib.hid hI
    have hyb := cell_of_one hI.2.2
    have hib := cell_of_one ((hI.2.1.block Bi hiLt).trans hii.out)
    have hbl2 := (Array.getElem?_eq_some_iff.1 hI.2.2).1
    obtain ⟨⟨c0, c1, c2, c3, c4⟩, -, hblt⟩ := five_c hb
    have hcx := HC.out x V hI.2.1
    have hHb := Lib.hid hb
    have hfp := filter_prefix isId hpfx
    rw [List.filter_append] at hfp
    have HF := Lib.hid hfp
    have hyl := fun (hx : isId x = true) V2 (hV2 : J (pre.filter isId) V2) => HY.out (pre.filter isId) x V2 hV2 (by have := HF.out; simpa [List.filter_cons, hx] using this)
    have HYL := Lib.hid hyl
    clear hyl hfp hpfx hI hb
    cases hx : isId x
    · rw [hx] at hcx
      have Hcx := Lib.hid hcx
      have Hx := Lib.hid hx
      clear hcx hx HYL
      unfold plV at Hcx
      gi_wp2_with (refine ⟨trivial, ?_⟩; gi_at_call 73; refine (CallsIn.inRound l2 (callsIn_wide.2 Hcx.out)).mono ?_; rintro e w1 ⟨rfl, hb1⟩)
      refine ⟨fun _ h => (by cases h), ?_⟩
      gi_wp2
      refine ⟨(Full.of_below (Nat.zero_le _) hb1 : Full 0 _ _).others.from _, Full.kp (Full.of_below hHI.out.2.1.size hb1), ?_, hHI.out.2.1.trans (hb1.mono hHI.out.2.1.size), heap_below hb1 hbl2 hHI.out.2.2⟩
      rw [List.filter_append, List.filter_cons_of_neg (by rw [Hx.out]; simp), List.filter_nil, List.append_nil]
      exact abides_next HJ.out hHI.out.1 hb1
    · rw [hx] at hcx
      have Hcx := Lib.hid hcx
      have Hx := Lib.hid hx
      clear hcx hx
      unfold plV at Hcx
      gi_wp2_with (refine ⟨trivial, ?_⟩; gi_at_call 73; refine (CallsIn.inRound l2 (callsIn_wide.2 Hcx.out)).mono ?_; rintro e w1 ⟨rfl, hb1⟩; have cy1 := cell_of_one (heap_below hb1 hbl2 hHI.out.2.2); obtain ⟨⟨n0, n1, n2, n3, n4⟩, -, -⟩ := five_c (heap_below hb1 hblt hHb.out); obtain ⟨fn, tmps, assign, body, hy0, hR⟩ := HYL.out Hx.out w1 (abides_next HJ.out hHI.out.1 hb1); have hy : (Instr.yield lY #[.agg #[.bool x.base.cell, .int .i64 x.base.n, .int .i64 (x.id : Int), .int .i64 (x.arg : Int), .bool x.jumps]]).run Tryz.prog w1 = .ok (.round lY fn tmps assign body) w1 := hy0; clear hy0)
      refine (roundIn_in hR).mono ?_
      rintro e' w5 (⟨rfl, hJ5, hk5, hkf⟩ | ⟨rfl, hJx5, hkf⟩)
      · gi_wp2
        refine ⟨((Full.of_below (Nat.zero_le _) hb1 : Full 0 _ _).others.from _).trans (kf_up hkf hb0.size), (Full.kp (Full.of_below hHI.out.2.1.size hb1)).trans hk5, ?_, hHI.out.2.1.trans ((hb1.mono hHI.out.2.1.size).trans hk5.1), hk5.cells (heap_below hb1 hbl2 hHI.out.2.2) (by decide) (by decide)⟩
        rw [List.filter_append, List.filter_cons_of_pos Hx.out, List.filter_nil]
        exact hJ5
      · gi_wp2
        exact ⟨((Full.of_below (Nat.zero_le _) hb1 : Full 0 _ _).others.from _).trans (kf_up hkf hb0.size), rfl, _, by have := HF.out; simpa [List.filter_cons, Hx.out] using this, hJx5⟩
  case done =>
    rintro D ys V hD rfl hI hK
    gi_wp2
    refine ⟨by simp, .inl ⟨_, _, rfl, run_takeDeferred hK, ?_⟩⟩
    refine ⟨.tuple #[], by simp [results, Tryz.results122], ⟨_, rfl⟩, .inl ⟨_, rfl, ?_⟩⟩
    exact HJ.out _ _ _ _ hI.1 (grownBy_putObj' V D _) (fun r e => by cases e; exact ⟨by omega, _, hK, .inl rfl⟩)
  case stop =>
    rintro D c pre V hD _ ⟨rfl, pre', hp1, hp2⟩ hK
    gi_wp2
    refine ⟨by simp, .inl ⟨_, _, rfl, run_takeDeferred hK, ?_⟩⟩
    refine ⟨.tuple #[], by simp [results, Tryz.results122], ⟨_, rfl⟩, .inr ⟨pre', hp1, ?_⟩⟩
    exact HJx.out _ _ _ _ hp2 (grownBy_putObj' V D _) (fun r e => by cases e; exact ⟨by omega, _, hK, .inl rfl⟩)

set_option maxRecDepth 100000 in
set_option maxHeartbeats 2000000 in
theorem that_arg (n : Nat) (ids : Value) (a : Ar) (p : Pl) (Br Bi Bp : Nat) (w0 w : World) (hin : ArIn w0 ids a) (hw : Below w0.heap.size w0 w)
    (hr : w0.heap[Br]? = some (.cells #[ids, .bool a.root.cell, .int .i64 a.root.n, .bool a.jumps] 80 (0, 0))) (hi : w0.heap[Bi]? = some (.cells #[.func (.func 123) #[] #[.pointer (some ⟨Bp, 0, none⟩)]] 102 (0, 0))) (hp : w0.heap[Bp]? = some (.cells #[.bool p.base.cell, .int .i64 p.base.n, .int .i64 (p.id : Int), .int .i64 (p.arg : Int), .bool p.jumps] 85 (0, 0))) :
    SeqAt AnyO Fence.wide n Tryz.prog 122 (fun y => #[y] ++ #[.pointer (some ⟨Br, 0, none⟩), .pointer (some ⟨Bi, 0, none⟩)]) encP (Kp w0.heap.size)
      (fun ys => ys = (placesL a).filter (argOf p)) (fun pre => pre <+: (placesL a).filter (argOf p)) (fun pre x => pre ++ [x] <+: (placesL a).filter (argOf p)) w := by
  intro lY J Jx W hW hJ hJx hY h0
  have hcall : ∀ (x : Pl) (V : World), Below w0.heap.size w0 V → Calls Tryz.prog 123 (#[plV x] ++ #[.pointer (some ⟨Bp, 0, none⟩)]) V fun r V' => r = .returned (.bool ((argOf p) x)) ∧ Below V.heap.size V V' := fun x V hbV => allowed1_any p x Bp V ((hbV.block Bp (Array.getElem?_eq_some_iff.1 hp).1).trans hp)
  have hw2 : Below w0.heap.size w0 W := hw.trans (hW.mono hw.size)
  have hb0 : Below W.heap.size W (W.alloc (.cells #[.func (.yield lY) #[] #[]] 102)) := (Below.refl _ _).alloc (Nat.le_refl _) _
  have hbx := heap_alloc_new W (.cells #[.func (.yield lY) #[] #[]] 102)
  have hseq := places_seq 4 ids a w0 (W.alloc (.cells #[.func (.yield lY) #[] #[]] 102)) (by omega) hin (hw2.trans (hb0.mono hw2.size))
  have hrW := (hw2.block Br (Array.getElem?_eq_some_iff.1 hr).1).trans hr
  have hiLt := (Array.getElem?_eq_some_iff.1 hi).1
  obtain ⟨A, cap, rfl, -⟩ := hin.sl
  refine (callsIn_wide (n := n)).2 ((callsIn_wide (n := 5)).1 ?_)
  show CallsIn Fence.wide 5 Tryz.prog _ #[_, _, _] W _
  refine callsIn_of_wp_marks Tryz.func122 rfl trivial ?_ rfl
  simp only [Tryz.ntmps122, List.size_toArray, List.length_cons, List.length_nil, Nat.reduceAdd, Nat.reduceSub, Array.replicate_succ, Array.replicate_zero, List.push_toArray, List.append_toArray, List.nil_append, List.cons_append]
  have hrl := (Array.getElem?_eq_some_iff.1 hrW).1
  obtain ⟨⟨r0, r1, r2, r3⟩, -, -⟩ := four_c hrW
  have HY := Lib.hid hY
  have HJ := Lib.hid hJ
  have HJx := Lib.hid hJx
  have HC := Lib.hid hcall
  have hz : (W.alloc (.cells #[.func (.yield lY) #[] #[]] 102)).heap.size = W.heap.size + 1 := by simp
  have hJ0 := abides_next hJ h0 hb0
  have hbl := hw2.trans (hb0.mono hw2.size)
  have hii := Lib.hid hi
  clear hY hcall hin hrW hi hr h0 hJ hJx
  unfold arV at *
  gi_wp2
  obtain ⟨W0, hW0⟩ : ∃ W0, W.alloc (.cells #[.func (.yield lY) #[] #[]] 102) = W0 := ⟨_, rfl⟩
  rw [hW0] at hb0 hbx hseq hz hJ0 hbl ⊢
  have hAl : AbidesAl AnyO W0.heap.size (fun (pre : List Pl) V => J (pre.filter (argOf p)) V ∧ Below w0.heap.size w0 V ∧ V.heap[W.heap.size]? = some (.cells #[.func (.yield lY) #[] #[]] 102 (0, 0))) := fun s X Y row hs hg hrr =>
    ⟨HJ.out _ X Y row hs.1 hg (fun r e => ⟨Nat.le_trans hb0.size (hrr r e).1, (hrr r e).2⟩), hs.2.1.grown hg hs.2.1.size (fun r e => Nat.le_trans hbl.size (hrr r e).1), box_any (show W.heap.size < W0.heap.size by omega) s X Y row hs.2.2 hg hrr⟩
  have hAlx : ∀ c : Code, AbidesAl AnyO W0.heap.size (fun (_ : List Pl) V => c = .ret ∧ ∃ pre', pre' <+: (placesL a).filter (argOf p) ∧ Jx pre' V) := fun c s X Y row hs hg hrr => by
    obtain ⟨hc, pre', h1, h2⟩ := hs
    exact ⟨hc, pre', h1, HJx.out _ X Y row h2 hg (fun r e => ⟨Nat.le_trans hb0.size (hrr r e).1, (hrr r e).2⟩)⟩
  refine range_at (Al := AnyO) rfl (by omega) (hands_bound rfl trivial (enters_of Tryz.func61 (by kernel_rfl) rfl)) hseq Kp.trans (Kp.book (w := W0) hbl.size) (Below.refl _ _) (fun _ => rfl)
    (fun pre V => J (pre.filter (argOf p)) V ∧ Below w0.heap.size w0 V ∧ V.heap[W.heap.size]? = some (.cells #[.func (.yield lY) #[] #[]] 102 (0, 0))) (fun c _ V => c = .ret ∧ ∃ pre', pre' <+: (placesL a).filter (argOf p) ∧ Jx pre' V)
    (fun s X Y row hs hg hrr => hAl s X Y row hs hg (fun r e => ⟨(hrr r e).1, by obtain ⟨_, o, h1, h2⟩ := hrr r e; exact ⟨o, h1, .inl h2⟩⟩)) (fun c s X Y row hs hg hrr => hAlx c s X Y row hs hg (fun r e => ⟨(hrr r e).1, by obtain ⟨_, o, h1, h2⟩ := hrr r e; exact ⟨o, h1, .inl h2⟩⟩))
    hAl hAlx ⟨hJ0, hbl, hbx⟩
    (fun x a' V => ∃ b, V.heap[b]? = some (.cells #[.bool x.base.cell, .int .i64 x.base.n, .int .i64 (x.id : Int), .int .i64 (x.arg : Int), .bool x.jumps] 85 (0, 0)) ∧ a' = { tmps := #[.func (.yield lY) #[] #[], .pointer (some ⟨Br, 0, none⟩), .pointer (some ⟨Bi, 0, none⟩), .pointer (some ⟨W.heap.size, 0, none⟩), .pointer (some ⟨b, 0, none⟩), .agg #[.slice A a.ids.length cap, .bool a.root.cell, .int .i64 a.root.n, .bool a.jumps], .func (.func 61) #[.agg #[.slice A a.ids.length cap, .bool a.root.cell, .int .i64 a.root.n, .bool a.jumps]] #[], .agg #[.bool x.base.cell, .int .i64 x.base.n, .int .i64 (x.id : Int), .int .i64 (x.arg : Int), .bool x.jumps], undef, undef, undef, undef, undef, undef, undef, undef, undef], defers := [] })
    (fun x a' s X Y row ⟨b, hb, he⟩ hg hr => ⟨b, cells_own (β := Unit) () X Y row hb hg hr, he⟩)
    ?assign ?body ?done ?stop
  case assign =>
    rintro l2 pre x V K hI hK
    dsimp only [encP, plV]
    gi_wp2
    have hal : Below V.heap.size V (V.alloc (.cells #[.bool x.base.cell, .int .i64 x.base.n, .int .i64 (x.id : Int), .int .i64 (x.arg : Int), .bool x.jumps] 85)) := (Below.refl _ _).alloc (Nat.le_refl _) _
    refine hK _ _ ((KeepsOthers.alloc _ _).from _) (Full.kp (Full.of_below hI.2.1.size hal)) ?_ ⟨V.heap.size, heap_alloc_new V _, rfl⟩
    exact ⟨HJ.out _ _ _ none hI.1 (grown_of_below hal) (fun r e => by cases e), hI.2.1.trans (hal.mono hI.2.1.size), (Below.heap_alloc V _ _ (Array.getElem?_eq_some_iff.1 hI.2.2).1).trans hI.2.2⟩
  case body =>
    rintro l2 pre x a' V _ _ hI ⟨b, hb, rfl⟩ hpfx
    have hHI := Lib.hid hI
    have hyb := cell_of_one hI.2.2
    have hib := cell_of_one ((hI.2.1.block Bi hiLt).trans hii.out)
    have hbl2 := (Array.getElem?_eq_some_iff.1 hI.2.2).1
    obtain ⟨⟨c0, c1, c2, c3, c4⟩, -, hblt⟩ := five_c hb
    have hcx := HC.out x V hI.2.1
    have hHb := Lib.hid hb
    have hfp := filter_prefix (argOf p) hpfx
    rw [List.filter_append] at hfp
    have HF := Lib.hid hfp
    have hyl := fun (hx : (argOf p) x = true) V2 (hV2 : J (pre.filter (argOf p)) V2) => HY.out (pre.filter (argOf p)) x V2 hV2 (by have := HF.out; simpa [List.filter_cons, hx] using this)
    have HYL := Lib.hid hyl
    clear hyl hfp hpfx hI hb
    cases hx : (argOf p) x
    · rw [hx] at hcx
      have Hcx := Lib.hid hcx
      have Hx := Lib.hid hx
      clear hcx hx HYL
      unfold plV at Hcx
      gi_wp2_with (refine ⟨trivial, ?_⟩; gi_at_call 123; refine (CallsIn.inRound l2 (callsIn_wide.2 Hcx.out)).mono ?_; rintro e w1 ⟨rfl, hb1⟩)
      refine ⟨fun _ h => (by cases h), ?_⟩
      gi_wp2
      refine ⟨(Full.of_below (Nat.zero_le _) hb1 : Full 0 _ _).others.from _, Full.kp (Full.of_below hHI.out.2.1.size hb1), ?_, hHI.out.2.1.trans (hb1.mono hHI.out.2.1.size), heap_below hb1 hbl2 hHI.out.2.2⟩
      rw [List.filter_append, List.filter_cons_of_neg (by rw [Hx.out]; simp), List.filter_nil, List.append_nil]
      exact abides_next HJ.out hHI.out.1 hb1
    · rw [hx] at hcx
      have Hcx := Lib.hid hcx
      have Hx := Lib.hid hx
      clear hcx hx
      unfold plV at Hcx
      gi_wp2_with (refine ⟨trivial, ?_⟩; gi_at_call 123; refine (CallsIn.inRound l2 (callsIn_wide.2 Hcx.out)).mono ?_; rintro e w1 ⟨rfl, hb1⟩; have cy1 := cell_of_one (heap_below hb1 hbl2 hHI.out.2.2); obtain ⟨⟨n0, n1, n2, n3, n4⟩, -, -⟩ := five_c (heap_below hb1 hblt hHb.out); obtain ⟨fn, tmps, assign, body, hy0, hR⟩ := HYL.out Hx.out w1 (abides_next HJ.out hHI.out.1 hb1); have hy : (Instr.yield lY #[.agg #[.bool x.base.cell, .int .i64 x.base.n, .int .i64 (x.id : Int), .int .i64 (x.arg : Int), .bool x.jumps]]).run Tryz.prog w1 = .ok (.round lY fn tmps assign body) w1 := hy0; clear hy0)
      refine (roundIn_in hR).mono ?_
      rintro e' w5 (⟨rfl, hJ5, hk5, hkf⟩ | ⟨rfl, hJx5, hkf⟩)
      · gi_wp2
        refine ⟨((Full.of_below (Nat.zero_le _) hb1 : Full 0 _ _).others.from _).trans (kf_up hkf hb0.size), (Full.kp (Full.of_below hHI.out.2.1.size hb1)).trans hk5, ?_, hHI.out.2.1.trans ((hb1.mono hHI.out.2.1.size).trans hk5.1), hk5.cells (heap_below hb1 hbl2 hHI.out.2.2) (by decide) (by decide)⟩
        rw [List.filter_append, List.filter_cons_of_pos Hx.out, List.filter_nil]
        exact hJ5
      · gi_wp2
        exact ⟨((Full.of_below (Nat.zero_le _) hb1 : Full 0 _ _).others.from _).trans (kf_up hkf hb0.size), rfl, _, by have := HF.out; simpa [List.filter_cons, Hx.out] using this, hJx5⟩
  case done =>
    rintro D ys V hD rfl hI hK
    gi_wp2
    refine ⟨by simp, .inl ⟨_, _, rfl, run_takeDeferred hK, ?_⟩⟩
    refine ⟨.tuple #[], by simp [results, Tryz.results122], ⟨_, rfl⟩, .inl ⟨_, rfl, ?_⟩⟩
    exact HJ.out _ _ _ _ hI.1 (grownBy_putObj' V D _) (fun r e => by cases e; exact ⟨by omega, _, hK, .inl rfl⟩)
  case stop =>
    rintro D c pre V hD _ ⟨rfl, pre', hp1, hp2⟩ hK
    gi_wp2
    refine ⟨by simp, .inl ⟨_, _, rfl, run_takeDeferred hK, ?_⟩⟩
    refine ⟨.tuple #[], by simp [results, Tryz.results122], ⟨_, rfl⟩, .inr ⟨pre', hp1, ?_⟩⟩
    exact HJx.out _ _ _ _ hp2 (grownBy_putObj' V D _) (fun r e => by cases e; exact ⟨by omega, _, hK, .inl rfl⟩)

end Go.Proofs.YtoncdnelacolaaaGreatDoor.Ar

namespace Go.Proofs.YtoncdnelacolaaaGreatDoor.Ar
open Go Go.Proofs Go.RowKit Lx Ps

theorem allowP_id {p : Pl} (h : isId p = false) : allowP p = isId := by funext q; unfold allowP; rw [h]; rfl
theorem allowP_arg {p : Pl} (h : isId p = true) : allowP p = argOf p := by funext q; unfold allowP argOf; rw [h]; rfl
theorem placeM_mem {a : Ar} {m : Mv} {p : Pl} (h : placeM a m = some p) : hasP p m = true ∧ m.id = p.id ∧ m.arg = p.arg := by
  unfold placeM at h
  cases hp : plAt a m.id m.arg with
  | none => rw [hp] at h; cases h
  | some q =>
    rw [hp] at h
    dsimp only at h
    split at h
    · cases h
      exact ⟨‹_›, plAt_int hp⟩
    · cases h

/-- What the last statement of Under does: the test, the row, the list. -/
theorem under_gather (ids : Value) (a : Ar) (p : Pl) (V V1 : World) (hin : ArIn V ids a) (hR : Right a) (hb : Below V.heap.size V V1) (hbx : V1.heap[V.heap.size]? = some (.cells #[.bool p.base.cell, .int .i64 p.base.n, .int .i64 (p.id : Int), .int .i64 (p.arg : Int), .bool p.jumps] 85 (0, 0))) :
    Calls Tryz.prog 60 #[.func (.func 122) #[] #[.pointer (some ⟨V1.heap.size, 0, none⟩), .pointer (some ⟨V1.heap.size + 1, 0, none⟩)], .func (.func 80) #[] #[]]
      ((V1.alloc (.cells #[ids, .bool a.root.cell, .int .i64 a.root.n, .bool a.jumps] 80)).alloc (.cells #[isV p V.heap.size] 102)) fun e w' => ∃ v, e = .returned v ∧ w'.ownsRow V.heap.size 40 4 v (underM a p).length (mvCells (underM a p)) ∧ Below V.heap.size V w' := by
  have hlen := under_len hR p
  obtain ⟨k1, k2⟩ := blocks2 V1 (.cells #[ids, .bool a.root.cell, .int .i64 a.root.n, .bool a.jumps] 80) (.cells #[isV p V.heap.size] 102)
  have hb2 : Below V1.heap.size V1 ((V1.alloc (.cells #[ids, .bool a.root.cell, .int .i64 a.root.n, .bool a.jumps] 80)).alloc (.cells #[isV p V.heap.size] 102)) := below_two
  have hb3 := hb.trans (hb2.mono hb.size)
  have hin2 := hin.below hb3
  have hbx2 := heap_below hb2 (Array.getElem?_eq_some_iff.1 hbx).1 hbx
  obtain ⟨W2, hW2⟩ : ∃ W2, ((V1.alloc (.cells #[ids, .bool a.root.cell, .int .i64 a.root.n, .bool a.jumps] 80)).alloc (.cells #[isV p V.heap.size] 102)) = W2 := ⟨_, rfl⟩
  rw [hW2] at k1 k2 hb2 hb3 hin2 hbx2 ⊢
  have hps : ∀ (q : Pl) (l : List Mv) (U : World), q ∈ (placesL a).filter (allowP p) → Lst W2.heap.size (W2.heap.size + 1) U l → l.length + 400 ≤ 1000000 →
      Calls Tryz.prog 80 #[plV q, yV (W2.heap.size + 1)] U fun e W' => (∃ v, e = .returned v) ∧ Lst W2.heap.size (W2.heap.size + 1) W' (l ++ questP q) ∧ Full W2.heap.size U W' := fun q l U hq hL hl => by
    obtain ⟨N, hN, hN2, -⟩ := place_base hR (List.mem_filter.1 hq).1
    exact quest_push _ _ N q l U hL hN hN2 (by omega)
  have hg : ∀ (f : Pl → Bool), allowP p = f → (∀ U, Below W2.heap.size W2 U → SeqAt AnyO Fence.wide 4 Tryz.prog 122 (fun y => #[y] ++ #[.pointer (some ⟨V1.heap.size, 0, none⟩), .pointer (some ⟨V1.heap.size + 1, 0, none⟩)]) encP (Kp W2.heap.size)
      (fun ys => ys = (placesL a).filter f) (fun pre => pre <+: (placesL a).filter f) (fun pre x => pre ++ [x] <+: (placesL a).filter f) U) →
      Calls Tryz.prog 60 #[.func (.func 122) #[] #[.pointer (some ⟨V1.heap.size, 0, none⟩), .pointer (some ⟨V1.heap.size + 1, 0, none⟩)], .func (.func 80) #[] #[]] W2 fun e w' => ∃ v, e = .returned v ∧ w'.ownsRow W2.heap.size 40 4 v (((placesL a).filter f).flatMap questP).length (mvCells (((placesL a).filter f).flatMap questP)) ∧ Below W2.heap.size W2 w' := fun f hf hs =>
    gather_quests 122 #[] #[.pointer (some ⟨V1.heap.size, 0, none⟩), .pointer (some ⟨V1.heap.size + 1, 0, none⟩)] _ ((placesL a).filter f) questP W2
      (fun b g hg => hands_plain hg trivial (enters_of Tryz.func122 (by kernel_rfl) rfl)) hs (fun q l U hq hL hl => hps q l U (by rw [hf]; exact hq) hL hl)
      (by have : (underM a p).length = (((placesL a).filter f).flatMap questP).length := by unfold underM; rw [hf]
          omega)
  have hU : ∀ (f : Pl → Bool), allowP p = f → underM a p = ((placesL a).filter f).flatMap questP := fun f hf => by unfold underM; rw [hf]
  cases hi : isId p
  · have he : isV p V.heap.size = .func (.func 73) #[] #[] := by unfold isV; rw [hi]; rfl
    have hgg := hg isId (allowP_id hi) (fun U hbU => that_id 4 ids a _ _ W2 U hin2 hbU k1 (by rw [← he]; exact k2))
    rw [hU _ (allowP_id hi)]
    exact hgg.mono fun e w' ⟨v, h1, h2, h3⟩ => ⟨v, h1, World.ownsRow.mono h2 hb3.size, hb3.trans (h3.mono hb3.size)⟩
  · have he : isV p V.heap.size = .func (.func 123) #[] #[.pointer (some ⟨V.heap.size, 0, none⟩)] := by unfold isV; rw [hi]; rfl
    have hgg := hg (argOf p) (allowP_arg hi) (fun U hbU => that_arg 4 ids a p _ _ V.heap.size W2 U hin2 hbU k1 (by rw [← he]; exact k2) hbx2)
    rw [hU _ (allowP_arg hi)]
    exact hgg.mono fun e w' ⟨v, h1, h2, h3⟩ => ⟨v, h1, World.ownsRow.mono h2 hb3.size, hb3.trans (h3.mono hb3.size)⟩

theorem isV_form (p : Pl) (B : Nat) : ∃ fn lb, isV p B = .func fn #[] lb := by
  unfold isV
  split
  · exact ⟨_, _, rfl⟩
  · exact ⟨_, _, rfl⟩
set_option maxRecDepth 100000 in
set_option maxHeartbeats 1000000 in
theorem under_any (ids : Value) (a : Ar) (m : Mv) (p : Pl) (w : World) (hin : ArIn w ids a) (h0 : checkE a = 0) (hp : placeM a m = some p) (hk : m.kind ≠ 3) :
    Calls Tryz.prog 30 #[arV ids a, mvV m] w fun e w' => ∃ v, e = .returned (.tuple #[v, .int .i64 0]) ∧ w'.ownsRow w.heap.size 40 4 v (underM a p).length (mvCells (underM a p)) ∧ Below w.heap.size w w' := by
  have hR := right_of h0
  have hA : ∀ V, Below w.heap.size w V → Calls Tryz.prog 74 #[arV ids a, mvV m] V fun r w' => r = .returned (.tuple #[arV ids a, plV p, .int .i64 0]) ∧ Below V.heap.size V w' := fun V hb => (askedPlace_any ids a m V (hin.below hb)).mono fun _ _ ⟨h1, h2⟩ => ⟨h1.trans (by rw [apR_some h0 hp hk]), h2⟩
  have hG : ∀ V V1, Below w.heap.size w V → Below V.heap.size V V1 → V1.heap[V.heap.size]? = some (.cells #[.bool p.base.cell, .int .i64 p.base.n, .int .i64 (p.id : Int), .int .i64 (p.arg : Int), .bool p.jumps] 85 (0, 0)) → _ := fun V V1 hb hb1 hbx => under_gather ids a p V V1 (hin.below hb) hR hb1 hbx
  have hal := fun V => allowed_any p V
  have hv := isV_form p
  obtain ⟨A, cap, rfl, -⟩ := hin.sl
  have hT : ∀ (B : Nat) (V : World), Calls Tryz.prog 78 #[arV (.slice A a.ids.length cap) a, isV p B] V fun e w' => e = .returned (.func (.func 122) #[] #[.pointer (some ⟨V.heap.size, 0, none⟩), .pointer (some ⟨V.heap.size + 1, 0, none⟩)]) ∧
      (V.alloc (.cells #[.slice A a.ids.length cap, .bool a.root.cell, .int .i64 a.root.n, .bool a.jumps] 80)).alloc (.cells #[isV p B] 102) = w' := fun B V => by
    obtain ⟨fn, lb, h⟩ := hv B
    exact placesThat_any _ _ a A _ cap rfl fn _ lb h V
  have hba : Below w.heap.size w ((w.alloc (.cells #[.slice A a.ids.length cap, .bool a.root.cell, .int .i64 a.root.n, .bool a.jumps] 26)).alloc (.cells #[.int .i64 m.id, .int .i64 m.arg, .int .u8 (m.kind : Int), .int .i64 m.n] 40)) := below_two
  have HA := Lib.hid hA
  have HG := Lib.hid hG
  have HL := Lib.hid hal
  have HT := Lib.hid hT
  have HV := Lib.hid hv
  clear hin h0 hp hk hR hA hG hal hT hv
  generalize underM a p = L at *
  unfold arV mvV plV at *
  go_enter Tryz.func30, Tryz.ntmps30
  go_upto_region 4 with (go_at_call 74; refine (HA.out _ hba).mono ?_; rintro r w1 ⟨rfl, hb1⟩; have hb2 := hba.trans (hb1.mono hba.size))
  have K3 := Below.alloc (hb2.alloc hb2.size (.cells #[.slice A a.ids.length cap, .bool a.root.cell, .int .i64 a.root.n, .bool a.jumps] 80)) (by rw [alloc_sz2]; have := hb2.size; omega) (.cells #[.bool p.base.cell, .int .i64 p.base.n, .int .i64 (p.id : Int), .int .i64 (p.arg : Int), .bool p.jumps] 85)
  obtain ⟨K4, K5⟩ := blocks2 w1 (.cells #[.slice A a.ids.length cap, .bool a.root.cell, .int .i64 a.root.n, .bool a.jumps] 80) (.cells #[.bool p.base.cell, .int .i64 p.base.n, .int .i64 (p.id : Int), .int .i64 (p.arg : Int), .bool p.jumps] 85)
  generalize ((w1.alloc (.cells #[.slice A a.ids.length cap, .bool a.root.cell, .int .i64 a.root.n, .bool a.jumps] 80)).alloc (.cells #[.bool p.base.cell, .int .i64 p.base.n, .int .i64 (p.id : Int), .int .i64 (p.arg : Int), .bool p.jumps] 85)) = V at K3 K4 K5 ⊢
  obtain ⟨⟨r00, r01, r02, r03⟩, -, x4⟩ := four_c K4
  obtain ⟨⟨r10, r11, r12, r13, r14⟩, -, x5⟩ := five_c K5
  have HK3 := Lib.hid K3
  have HK4 := Lib.hid K4
  clear K4 K5 hb1 hb2 hba HA K3
  go_region_with (first
    | (go_at_call 79; refine (HL.out _).mono ?_; rintro r w2 ⟨rfl, hb2, hbx⟩; obtain ⟨⟨t00, t01, t02, t03⟩, -, tl⟩ := four_c (heap_below hb2 x4 HK4.out))
    | (go_at_call 78; refine (HT.out _ _).mono ?_; rintro r w3 ⟨rfl, rfl⟩)
    | (go_at_call 60; refine (HG.out V w2 HK3.out ⟨hb2.os, hb2.tape, hb2.output, hb2.size, hb2.block⟩ hbx).mono ?_; rintro r w4 ⟨v, rfl, hown, hb4⟩))
  all_goals
    go_wp2
    go_ret2
    exact ⟨v, rfl, World.ownsRow.mono hown HK3.out.size, HK3.out.trans (hb4.mono HK3.out.size)⟩

end Go.Proofs.YtoncdnelacolaaaGreatDoor.Ar
