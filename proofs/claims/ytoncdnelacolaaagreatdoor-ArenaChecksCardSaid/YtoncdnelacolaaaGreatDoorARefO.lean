/- The reference: Under. -/
import Derived.Test.YtoncdnelacolaaaGreatDoorAGather
import Derived.Test.YtoncdnelacolaaaGreatDoorARefN
namespace Go.Proofs.YtoncdnelacolaaaGreatDoor.Ar
open Go Go.Proofs Go.RowKit Lx Ps
attribute [local go_sem] Oper.semAt_some

set_option maxRecDepth 100000 in
set_option maxHeartbeats 1000000 in
/-- The iterator over the answers of a put stops. -/
theorem putAns_seq {Al : Obj → Prop} (n n0 : Nat) (p : Pl) (w : World) (hn0 : n0 ≤ w.heap.size) :
    SeqAt Al Fence.wide n Tryz.prog 76 (fun y => #[plV p] ++ #[y]) encM (Kp n0) (fun ys => ys = tellP p 1) (fun pre => pre <+: tellP p 1) (fun pre x => pre ++ [x] <+: tellP p 1) w := by
  intro l J Jx W hW hJ _ hY h0
  have hb0 : Below W.heap.size W (W.alloc (plB p)) := (Below.refl _ _).alloc (Nat.le_refl _) _
  have ht := tell1_in 1 n0 l 1 p J Jx (W.alloc (plB p)) (Nat.le_refl _) (Nat.le_trans hn0 (Nat.le_trans hW.size hb0.size)) (by omega) (hJ.up hb0.size)
    (fun pre x V hv hl => (yieldAt_depth (hY pre x V hv hl)).mono (fun _ _ h => h.imp (fun h => ⟨h.1, h.2.1, h.2.2.1⟩) (fun h => ⟨h.1, h.2.1⟩))) (abides_next hJ h0 hb0)
  have Ht := Lib.hid (callsIn_wide.1 ht)
  clear ht hY h0 hJ
  obtain ⟨⟨pc, pn⟩, pid, parg, pj⟩ := p
  unfold plV plB at *
  refine callsIn_wide.2 ?_
  show Calls Tryz.prog _ #[_, _] W _
  go_enter Tryz.func76, Tryz.ntmps76
  go_wp2_with (go_at_call 121; refine Ht.out.mono ?_; rintro e w1 ⟨⟨v, rfl⟩, hq⟩)
  go_end0
  exact ⟨⟨_, rfl⟩, hq⟩

theorem lst_placeM {n0 B D : Nat} : AbidesAl AnyO D (fun (pre : List Mv) W => Lst n0 B W pre) := by
  rintro pre X Y row ⟨h1, h2, v, hv, ho⟩ hg hr
  refine ⟨h1, Nat.le_trans h2 hg.size, v, hv.kept hg (fun e => ?_), ho.kept hg ?_⟩
  · obtain ⟨_, o, ho2, ho3⟩ := hr B e.symm
    rw [show X.heap[B]? = _ from hv] at ho2
    injection ho2 with ho2
    subst ho2
    rcases ho3 with ho3 | ⟨cs, fr, ho3⟩
    · cases ho3
    · injection ho3 with _ q _
      exact absurd q (by decide)
  · rcases ho.2 with ⟨rfl, _⟩ | ⟨g, cap, cur, rfl, _, hgb, _⟩
    · exact .inl rfl
    · refine .inr (fun e => ?_)
      obtain ⟨_, o, ho2, ho3⟩ := hr g e.symm
      rw [hgb] at ho2
      injection ho2 with ho2
      subst ho2
      rcases ho3 with ho3 | ⟨cs, fr, ho3⟩
      · cases ho3
      · injection ho3 with _ q _
        exact absurd q (by decide)
theorem lst_ownM {n0 B D : Nat} : OwnFrom D (fun (pre : List Mv) W => Lst n0 B W pre) := lst_own (fun l => l)

set_option maxRecDepth 100000 in
set_option maxHeartbeats 2000000 in
theorem appendSeq_any (gf : Nat) (bd lb : Array Value) (hand : Value → Array Value) (ps : List Mv) (w : World)
    (hh : ∀ (a : Act) (g : Operand), a.eval g = .func (.func gf) bd lb → Hands Tryz.prog Fence.wide a g gf hand)
    (hseq : ∀ V, Below w.heap.size w V → SeqAt AnyO Fence.wide 4 Tryz.prog gf hand encM (Kp w.heap.size) (fun ys => ys = ps) (fun pre => pre <+: ps) (fun pre x => pre ++ [x] <+: ps) V)
    (hlen : ps.length ≤ 1000) :
    Calls Tryz.prog 120 #[.slice none 0 0, .func (.func gf) bd lb] w fun e w' => ∃ v, e = .returned v ∧ w'.ownsRow w.heap.size 40 4 v ps.length (mvCells ps) ∧ Below w.heap.size w w' := by
  have hb0 : Below w.heap.size w (w.alloc (.cells #[.slice none 0 0] 32)) := (Below.refl _ _).alloc (Nat.le_refl _) _
  have hL0 : Lst w.heap.size w.heap.size (w.alloc (.cells #[.slice none 0 0] 32)) [] := ⟨Nat.le_refl _, by rw [alloc_sz2]; omega, .slice none 0 0, Boxed.new w 32 (.slice none 0 0), World.ownsRow_nil _ _ _ _⟩
  have hF0 := Full.of_below (Nat.le_refl _) hb0
  have hz0 : (w.alloc (.cells #[.slice none 0 0] 32)).heap.size = w.heap.size + 1 := by simp
  have hsq := hseq _ hb0
  have hhx := hh
  clear hseq hh
  refine (callsIn_wide (n := 5)).1 ?_
  refine callsIn_of_wp_marks Tryz.func120 rfl trivial ?_ rfl
  simp only [Tryz.ntmps120, List.size_toArray, List.length_cons, List.length_nil, Nat.reduceAdd, Nat.reduceSub, Array.replicate_succ, Array.replicate_zero, List.push_toArray, List.append_toArray, List.nil_append, List.cons_append]
  generalize hRV : Value.func (.func gf) bd lb = RV at *
  have HRV := Lib.hid hRV
  clear hRV
  gi_wp2
  obtain ⟨W0, hW0⟩ : ∃ W0, w.alloc (.cells #[.slice none 0 0] 32) = W0 := ⟨_, rfl⟩
  rw [hW0] at hL0 hF0 hz0 hsq hb0 ⊢
  refine range_at (Al := AnyO) rfl (by omega) (hhx _ _ (by first | rfl | exact HRV.out.symm)) hsq Kp.trans (Kp.book (w := W0) (by omega)) (Below.refl _ _) (fun _ => rfl)
    (fun pre V => Lst w.heap.size w.heap.size V pre ∧ Full w.heap.size w V) (fun _ _ _ => False)
    (fun s X Y row hs hg hr => ⟨lst_ownM s X Y row hs.1 hg hr, full_own (β := Unit) (Nat.le_refl _) (by omega) () X Y row hs.2 hg hr⟩) (fun c _ _ _ _ h _ _ => h)
    (fun s X Y row hs hg hr => ⟨lst_placeM s X Y row hs.1 hg hr, full_place (β := Unit) (Nat.le_refl _) (by omega) () X Y row hs.2 hg hr⟩) (fun c _ _ _ _ h _ _ => h)
    ⟨hL0, hF0⟩
    (fun x a' V => ∃ b, V.heap[b]? = some (.cells #[.int .i64 x.id, .int .i64 x.arg, .int .u8 (x.kind : Int), .int .i64 x.n] 40 (0, 0)) ∧ a' = { tmps := #[.slice none 0 0, RV, .pointer (some ⟨w.heap.size, 0, none⟩), undef, .slice none 0 0, .pointer (some ⟨b, 0, none⟩), RV, .agg #[.int .i64 x.id, .int .i64 x.arg, .int .u8 (x.kind : Int), .int .i64 x.n], undef, undef, undef, undef, undef], defers := [] })
    (fun x a' s X Y row ⟨b, hb, he⟩ hg hr => ⟨b, cells_own (β := Unit) () X Y row hb hg hr, he⟩)
    ?assign ?body ?done ?stop
  case assign =>
    rintro lY pre x V K hI hK
    dsimp only [encM, mvV]
    gi_wp2
    refine hK _ _ ((KeepsOthers.alloc _ _).from _) (Full.kp ((Full.refl _ V).alloc hI.1.2.1 _)) ?_ ⟨V.heap.size, heap_alloc_new V _, rfl⟩
    exact ⟨hI.1.alloc _, hI.2.alloc hI.1.2.1 _⟩
  case body =>
    rintro lY pre x a' V _ _ hI ⟨b, hb, rfl⟩ hpfx
    obtain ⟨⟨hB, hn, v, hv, hrow⟩, hF⟩ := hI
    obtain ⟨⟨c0, c1, c2, c3⟩, -, -⟩ := four_c hb
    have hlp := hpfx.length_le
    rw [List.length_append, List.length_singleton] at hlp
    obtain ⟨A, cap, rfl⟩ := own_slice hrow
    obtain ⟨i0, hi, hz0, hz1, hz2⟩ := info_parts mv_info
    have cv := hv.cell
    have fv := hv.frozen
    have hlt := hv.lt
    gi_wp2_with (gi_at_builtin; refine wpListIn_append_own _ rfl _ _ 32 rfl w.heap.size 40 i0 _ 4 32 Tryz.underlying32 hi hz0 hz1 hz2 rfl (by decide) _ _ _ rfl (hrow.alloc _) ⟨V.heap.size, 0, none⟩ 1 1 [.int .i64 x.id, .int .i64 x.arg, .int .u8 (x.kind : Int), .int .i64 x.n] rfl rfl (lit_new2 _ _ _ rfl _) (fun u hu => by simp at hu; rcases hu with rfl | rfl | rfl | rfl <;> rfl) (by unfold maxLen; omega) (by omega) (by rw [alloc_sz2]; omega) ?_; intro v' w2 hown' hgrow _; obtain ⟨g', cap', rfl⟩ := row_succ hown'; obtain ⟨q1, q2, q3, q4⟩ := full_append hv hrow hn hB hown' hgrow; have hc1 := q1.cell; have hf1 := q1.frozen)
    refine ⟨q4.others.from _, q4.kp, ⟨hB, Nat.le_trans hn q4.below.size, _, q2, ?_⟩, hF.trans q4⟩
    rw [mvCells_append, mvCells_one, List.length_append]; exact q3
  case done =>
    rintro D ys V hD rfl hI hK
    obtain ⟨⟨hB, hn, v, hv, hrow⟩, hF⟩ := hI
    obtain ⟨A, cap, rfl⟩ := own_slice hrow
    have cv := hv.cell
    have hFD := (full_own (β := Unit) (D := D) (Nat.le_refl w.heap.size) (by omega)).putObj (s := ()) (.deferred none) hF (Nat.le_refl _) hK rfl
    have hrD := ownsRow_putObj hrow (.deferred none) hK rfl
    gi_wp2
    refine ⟨by simp, .inl ⟨_, _, rfl, run_takeDeferred hK, ?_⟩⟩
    exact ⟨.slice A ys.length cap, by simp only [results, Tryz.results120]; simp [go_sem], .slice A ys.length cap, rfl, hrD, hFD.below⟩
  case stop =>
    rintro D c pre V _ _ h _
    exact h.elim

set_option maxRecDepth 100000 in
set_option maxHeartbeats 1000000 in
theorem collect_any (gf : Nat) (bd lb : Array Value) (hand : Value → Array Value) (ps : List Mv) (w : World)
    (hh : ∀ (a : Act) (g : Operand), a.eval g = .func (.func gf) bd lb → Hands Tryz.prog Fence.wide a g gf hand)
    (hseq : ∀ V, Below w.heap.size w V → SeqAt AnyO Fence.wide 4 Tryz.prog gf hand encM (Kp w.heap.size) (fun ys => ys = ps) (fun pre => pre <+: ps) (fun pre x => pre ++ [x] <+: ps) V)
    (hlen : ps.length ≤ 1000) :
    Calls Tryz.prog 75 #[.func (.func gf) bd lb] w fun e w' => ∃ v, e = .returned v ∧ w'.ownsRow w.heap.size 40 4 v ps.length (mvCells ps) ∧ Below w.heap.size w w' := by
  have HA := Lib.hid (appendSeq_any gf bd lb hand ps w hh hseq hlen)
  clear hh hseq
  go_enter Tryz.func75, Tryz.ntmps75
  go_wp2_with (go_at_call 120; refine HA.out.mono ?_; rintro e w3 ⟨v, rfl, hown, hb3⟩; obtain ⟨A, c2, rfl⟩ := own_slice hown)
  go_ret
  exact ⟨_, rfl, hown, hb3⟩

theorem ansP_len {p : Pl} {N : Nat} (hN : p.base.n = (N : Int)) (hN2 : N ≤ 64) : (ansP p).length ≤ 1000 := by
  unfold ansP tellP tellsL
  rw [List.length_append, List.length_map, List.length_range, hN, Int.toNat_natCast]
  have : (if p.jumps then [tellM p (-1)] else []).length ≤ 1 := by split <;> simp
  omega
theorem tell1_len (p : Pl) : (tellP p 1).length ≤ 1000 := by
  unfold tellP tellsL
  rw [List.length_append, List.length_map, List.length_range]
  have : (if p.jumps then [tellM p (-1)] else []).length ≤ 1 := by split <;> simp
  omega
theorem collect_ans (p : Pl) (N : Nat) (w : World) (hN : p.base.n = (N : Int)) (hN2 : N ≤ 64) :
    Calls Tryz.prog 75 #[.func (.func 77) #[plV p] #[]] w fun e w' => ∃ v, e = .returned v ∧ w'.ownsRow w.heap.size 40 4 v (ansP p).length (mvCells (ansP p)) ∧ Below w.heap.size w w' :=
  collect_any 77 #[plV p] #[] (fun y => #[plV p] ++ #[y]) (ansP p) w
    (fun b g hg => hands_bound hg trivial (enters_of Tryz.func77 (by kernel_rfl) rfl))
    (fun V hV => ans_seq 4 w.heap.size N p V hV.size hN hN2) (ansP_len hN hN2)
theorem collect_put (p : Pl) (w : World) :
    Calls Tryz.prog 75 #[.func (.func 76) #[plV p] #[]] w fun e w' => ∃ v, e = .returned v ∧ w'.ownsRow w.heap.size 40 4 v (tellP p 1).length (mvCells (tellP p 1)) ∧ Below w.heap.size w w' :=
  collect_any 76 #[plV p] #[] (fun y => #[plV p] ++ #[y]) (tellP p 1) w
    (fun b g hg => hands_bound hg trivial (enters_of Tryz.func76 (by kernel_rfl) rfl))
    (fun V hV => putAns_seq 4 w.heap.size p V hV.size) (tell1_len p)

end Go.Proofs.YtoncdnelacolaaaGreatDoor.Ar

namespace Go.Proofs.YtoncdnelacolaaaGreatDoor.Ar
open Go Go.Proofs Go.RowKit Go.Sort Lx Ps

/-- The questions under a question, and the error. -/
def undR (a : Ar) (m : Mv) : List Mv × Nat := if moveE a m ≠ 0 then ([], moveE a m) else if askB m = false then ([], 2) else (belowA a m.id m.arg, 0)
inductive ApC (ids : Value) (a : Ar) (m : Mv) : Prop
  | bad (e : Nat) (h0 : e ≠ 0) (he : apR ids a m = .tuple #[.agg #[.slice none 0 0, .bool false, .int .i64 0, .bool false], .agg #[.bool false, .int .i64 0, .int .i64 0, .int .i64 0, .bool false], .int .i64 (e : Int)]) (ha : ansR a m = ([], e)) (hu : undR a m = ([], e))
  | ok (p : Pl) (h0 : checkE a = 0) (hp : placeM a m = some p) (hk : m.kind ≠ 3) (hk2 : m.kind = 1 ∨ m.kind = 2) (ha : ansR a m = (toldA a m.id m.arg m.kind, 0)) (hu : undR a m = (belowA a m.id m.arg, 0))
theorem apCase (ids : Value) (a : Ar) (m : Mv) : ApC ids a m := by
  by_cases h : checkE a = 0
  · cases hp : placeM a m with
    | none =>
      have e := moveE_none h hp
      exact .bad 7 (by omega) (apR_none h hp) (by unfold ansR; rw [e]; rfl) (by unfold undR; rw [e]; rfl)
    | some p =>
      have e := moveE_some h hp
      have hk := kind_of (placeM_mem hp).1
      by_cases h3 : m.kind = 3
      · have ea : askB m = false := by unfold askB; rw [h3]; rfl
        exact .bad 2 (by omega) (apR_tell h hp h3) (by unfold ansR; rw [e, ea]; rfl) (by unfold undR; rw [e, ea]; rfl)
      · have h12 : m.kind = 1 ∨ m.kind = 2 := by omega
        have ea : askB m = true := by unfold askB; rcases h12 with h | h <;> rw [h] <;> rfl
        exact .ok p h hp h3 h12 (by unfold ansR; rw [e, ea]; rfl) (by unfold undR; rw [e, ea]; rfl)
  · have e := moveE_bad (m := m) h
    exact .bad _ h (apR_err rfl h) (by unfold ansR; rw [e, if_pos h]) (by unfold undR; rw [e, if_pos h])
theorem SlM_nil {v : Value} (w : World) (h : v = .slice none 0 0) : SlM w v [] := by subst h; exact nil_in w

set_option maxRecDepth 100000 in
set_option maxHeartbeats 1000000 in
theorem answers_bad (ids : Value) (a : Ar) (m : Mv) (e : Nat) (w : World) (hin : ArIn w ids a) (h0 : e ≠ 0) (he : apR ids a m = .tuple #[.agg #[.slice none 0 0, .bool false, .int .i64 0, .bool false], .agg #[.bool false, .int .i64 0, .int .i64 0, .int .i64 0, .bool false], .int .i64 (e : Int)]) :
    Calls Tryz.prog 29 #[arV ids a, mvV m] w fun r w' => r = .returned (.tuple #[.slice none 0 0, .int .i64 (e : Int)]) ∧ Below w.heap.size w w' := by
  have hA : ∀ V, Below w.heap.size w V → Calls Tryz.prog 74 #[arV ids a, mvV m] V fun r w' => r = .returned (.tuple #[.agg #[.slice none 0 0, .bool false, .int .i64 0, .bool false], .agg #[.bool false, .int .i64 0, .int .i64 0, .int .i64 0, .bool false], .int .i64 (e : Int)]) ∧ Below V.heap.size V w' := fun V hb => (askedPlace_any ids a m V (hin.below hb)).mono fun _ _ ⟨h1, h2⟩ => ⟨h1.trans (by rw [he]), h2⟩
  have hne : ((e : Int) != 0) = true := by simp; omega
  obtain ⟨A, cap, rfl, -⟩ := hin.sl
  have HA := Lib.hid hA
  clear hin hA h0 he
  have hba : Below w.heap.size w ((w.alloc (.cells #[.slice A a.ids.length cap, .bool a.root.cell, .int .i64 a.root.n, .bool a.jumps] 26)).alloc (.cells #[.int .i64 m.id, .int .i64 m.arg, .int .u8 (m.kind : Int), .int .i64 m.n] 40)) := below_two
  unfold arV mvV at *
  go_enter Tryz.func29, Tryz.ntmps29
  go_wp2_with (go_at_call 74; refine (HA.out _ hba).mono ?_; rintro r w1 ⟨rfl, hb1⟩; have hb2 := hba.trans (hb1.mono hba.size))
  go_ret2
  exact ⟨rfl, Below.alloc (hb2.alloc hb2.size _) (by rw [alloc_sz2]; have := hb2.size; omega) _⟩

set_option maxRecDepth 100000 in
set_option maxHeartbeats 1000000 in
theorem under_bad (ids : Value) (a : Ar) (m : Mv) (e : Nat) (w : World) (hin : ArIn w ids a) (h0 : e ≠ 0) (he : apR ids a m = .tuple #[.agg #[.slice none 0 0, .bool false, .int .i64 0, .bool false], .agg #[.bool false, .int .i64 0, .int .i64 0, .int .i64 0, .bool false], .int .i64 (e : Int)]) :
    Calls Tryz.prog 30 #[arV ids a, mvV m] w fun r w' => r = .returned (.tuple #[.slice none 0 0, .int .i64 (e : Int)]) ∧ Below w.heap.size w w' := by
  have hA : ∀ V, Below w.heap.size w V → Calls Tryz.prog 74 #[arV ids a, mvV m] V fun r w' => r = .returned (.tuple #[.agg #[.slice none 0 0, .bool false, .int .i64 0, .bool false], .agg #[.bool false, .int .i64 0, .int .i64 0, .int .i64 0, .bool false], .int .i64 (e : Int)]) ∧ Below V.heap.size V w' := fun V hb => (askedPlace_any ids a m V (hin.below hb)).mono fun _ _ ⟨h1, h2⟩ => ⟨h1.trans (by rw [he]), h2⟩
  have hne : ((e : Int) != 0) = true := by simp; omega
  obtain ⟨A, cap, rfl, -⟩ := hin.sl
  have HA := Lib.hid hA
  clear hin hA h0 he
  have hba : Below w.heap.size w ((w.alloc (.cells #[.slice A a.ids.length cap, .bool a.root.cell, .int .i64 a.root.n, .bool a.jumps] 26)).alloc (.cells #[.int .i64 m.id, .int .i64 m.arg, .int .u8 (m.kind : Int), .int .i64 m.n] 40)) := below_two
  unfold arV mvV at *
  go_enter Tryz.func30, Tryz.ntmps30
  go_wp2_with (go_at_call 74; refine (HA.out _ hba).mono ?_; rintro r w1 ⟨rfl, hb1⟩; have hb2 := hba.trans (hb1.mono hba.size))
  go_ret2
  exact ⟨rfl, Below.alloc (hb2.alloc hb2.size _) (by rw [alloc_sz2]; have := hb2.size; omega) _⟩

set_option maxRecDepth 100000 in
set_option maxHeartbeats 1000000 in
theorem answers_ok (ids : Value) (a : Ar) (m : Mv) (p : Pl) (w : World) (hin : ArIn w ids a) (h0 : checkE a = 0) (hp : placeM a m = some p) (hk : m.kind ≠ 3) (hk2 : m.kind = 1 ∨ m.kind = 2) :
    Calls Tryz.prog 29 #[arV ids a, mvV m] w fun e w' => ∃ v, e = .returned (.tuple #[v, .int .i64 0]) ∧ w'.ownsRow w.heap.size 40 4 v (toldA a m.id m.arg m.kind).length (mvCells (toldA a m.id m.arg m.kind)) ∧ Below w.heap.size w w' := by
  obtain ⟨hh, hi, ha⟩ := placeM_mem hp
  have hpl : plAt a m.id m.arg = some p := by
    unfold placeM at hp
    cases hq : plAt a m.id m.arg with
    | none => rw [hq] at hp; cases hp
    | some q =>
      rw [hq] at hp
      dsimp only at hp
      split at hp
      · rw [Option.some.inj hp]
      · cases hp
  obtain ⟨N, hN, hN2⟩ := plAt_right (right_of h0) hpl
  have hN1 : 1 ≤ N := by
    obtain ⟨N', e1, _, e3⟩ := place_base (right_of h0) (plAt_mem hpl)
    omega
  rw [toldA_some hpl]
  have hA : ∀ V, Below w.heap.size w V → Calls Tryz.prog 74 #[arV ids a, mvV m] V fun r w' => r = .returned (.tuple #[arV ids a, plV p, .int .i64 0]) ∧ Below V.heap.size V w' := fun V hb => (askedPlace_any ids a m V (hin.below hb)).mono fun _ _ ⟨h1, h2⟩ => ⟨h1.trans (by rw [apR_some h0 hp hk]), h2⟩
  obtain ⟨A, cap, rfl, -⟩ := hin.sl
  have hba : Below w.heap.size w ((w.alloc (.cells #[.slice A a.ids.length cap, .bool a.root.cell, .int .i64 a.root.n, .bool a.jumps] 26)).alloc (.cells #[.int .i64 m.id, .int .i64 m.arg, .int .u8 (m.kind : Int), .int .i64 m.n] 40)) := below_two
  obtain ⟨-, k1⟩ := blocks2 w (.cells #[.slice A a.ids.length cap, .bool a.root.cell, .int .i64 a.root.n, .bool a.jumps] 26) (.cells #[.int .i64 m.id, .int .i64 m.arg, .int .u8 (m.kind : Int), .int .i64 m.n] 40)
  have HK1 := Lib.hid k1
  have HA := Lib.hid hA
  clear hin hA h0 hp hh hi ha hpl k1 hk
  rcases hk2 with hk2 | hk2
  · have HC := Lib.hid (fun V => collect_ans p N V hN hN2)
    have HL := Lib.hid (show toldP p 1 = ansP p from told_one p)
    obtain ⟨mid, marg, mk, mn⟩ := m
    simp only at hk2
    subst hk2
    simp only
    rw [HL.out]
    clear hN hN2 hN1 HL
    generalize ansP p = L at *
    unfold arV mvV plV at *
    simp only [show ((1 : Nat) : Int) = 1 from rfl] at *
    go_enter Tryz.func29, Tryz.ntmps29
    go_upto_region 4 with (go_at_call 74; refine (HA.out _ hba).mono ?_; rintro r w1 ⟨rfl, hb1⟩; have hb2 := hba.trans (hb1.mono hba.size))
    have hlt1 := (Array.getElem?_eq_some_iff.1 HK1.out).1
    have hsz1 := hb1.size
    have K1 := (Below.heap_alloc (w1.alloc (.cells #[.slice A a.ids.length cap, .bool a.root.cell, .int .i64 a.root.n, .bool a.jumps] 80)) (.cells #[.bool p.base.cell, .int .i64 p.base.n, .int .i64 (p.id : Int), .int .i64 (p.arg : Int), .bool p.jumps] 85) _ (by rw [alloc_sz2]; omega)).trans ((Below.heap_alloc w1 (.cells #[.slice A a.ids.length cap, .bool a.root.cell, .int .i64 a.root.n, .bool a.jumps] 80) _ (by omega)).trans (heap_below hb1 hlt1 HK1.out))
    have K3 := RowKit.Below.alloc (hb2.alloc hb2.size (.cells #[.slice A a.ids.length cap, .bool a.root.cell, .int .i64 a.root.n, .bool a.jumps] 80)) (by rw [alloc_sz2]; have := hb2.size; omega) (.cells #[.bool p.base.cell, .int .i64 p.base.n, .int .i64 (p.id : Int), .int .i64 (p.arg : Int), .bool p.jumps] 85)
    obtain ⟨-, K5⟩ := blocks2 w1 (.cells #[.slice A a.ids.length cap, .bool a.root.cell, .int .i64 a.root.n, .bool a.jumps] 80) (.cells #[.bool p.base.cell, .int .i64 p.base.n, .int .i64 (p.id : Int), .int .i64 (p.arg : Int), .bool p.jumps] 85)
    clear hb1 hb2 hba HA HK1 hlt1 hsz1
    generalize ((w1.alloc (.cells #[.slice A a.ids.length cap, .bool a.root.cell, .int .i64 a.root.n, .bool a.jumps] 80)).alloc (.cells #[.bool p.base.cell, .int .i64 p.base.n, .int .i64 (p.id : Int), .int .i64 (p.arg : Int), .bool p.jumps] 85)) = V at K1 K3 K5 ⊢
    obtain ⟨⟨s0, s1, s2, s3⟩, -, x1⟩ := four_c K1
    obtain ⟨⟨t0, t1, t2, t3, t4⟩, -, x2⟩ := five_c K5
    clear K1 K5
    go_wp2_with (go_at_call 75; refine (HC.out _).mono ?_; rintro r w2 ⟨v, rfl, hown, hb4⟩; obtain ⟨Av, cv, rfl⟩ := own_slice hown)
    go_ret2
    exact ⟨_, rfl, World.ownsRow.mono hown K3.size, K3.trans (hb4.mono K3.size)⟩
  · have HC := Lib.hid (fun V => collect_put p V)
    have HL := Lib.hid (show toldP p 2 = tellP p 1 from by unfold toldP; rw [if_neg (by decide), hN, Int.toNat_natCast, show min 1 N = 1 by omega])
    obtain ⟨mid, marg, mk, mn⟩ := m
    simp only at hk2
    subst hk2
    simp only
    rw [HL.out]
    clear hN hN2 hN1 HL
    generalize tellP p 1 = L at *
    unfold arV mvV plV at *
    simp only [show ((2 : Nat) : Int) = 2 from rfl] at *
    go_enter Tryz.func29, Tryz.ntmps29
    go_upto_region 4 with (go_at_call 74; refine (HA.out _ hba).mono ?_; rintro r w1 ⟨rfl, hb1⟩; have hb2 := hba.trans (hb1.mono hba.size))
    have hlt1 := (Array.getElem?_eq_some_iff.1 HK1.out).1
    have hsz1 := hb1.size
    have K1 := (Below.heap_alloc (w1.alloc (.cells #[.slice A a.ids.length cap, .bool a.root.cell, .int .i64 a.root.n, .bool a.jumps] 80)) (.cells #[.bool p.base.cell, .int .i64 p.base.n, .int .i64 (p.id : Int), .int .i64 (p.arg : Int), .bool p.jumps] 85) _ (by rw [alloc_sz2]; omega)).trans ((Below.heap_alloc w1 (.cells #[.slice A a.ids.length cap, .bool a.root.cell, .int .i64 a.root.n, .bool a.jumps] 80) _ (by omega)).trans (heap_below hb1 hlt1 HK1.out))
    have K3 := RowKit.Below.alloc (hb2.alloc hb2.size (.cells #[.slice A a.ids.length cap, .bool a.root.cell, .int .i64 a.root.n, .bool a.jumps] 80)) (by rw [alloc_sz2]; have := hb2.size; omega) (.cells #[.bool p.base.cell, .int .i64 p.base.n, .int .i64 (p.id : Int), .int .i64 (p.arg : Int), .bool p.jumps] 85)
    obtain ⟨-, K5⟩ := blocks2 w1 (.cells #[.slice A a.ids.length cap, .bool a.root.cell, .int .i64 a.root.n, .bool a.jumps] 80) (.cells #[.bool p.base.cell, .int .i64 p.base.n, .int .i64 (p.id : Int), .int .i64 (p.arg : Int), .bool p.jumps] 85)
    clear hb1 hb2 hba HA HK1 hlt1 hsz1
    generalize ((w1.alloc (.cells #[.slice A a.ids.length cap, .bool a.root.cell, .int .i64 a.root.n, .bool a.jumps] 80)).alloc (.cells #[.bool p.base.cell, .int .i64 p.base.n, .int .i64 (p.id : Int), .int .i64 (p.arg : Int), .bool p.jumps] 85)) = V at K1 K3 K5 ⊢
    obtain ⟨⟨s0, s1, s2, s3⟩, -, x1⟩ := four_c K1
    obtain ⟨⟨t0, t1, t2, t3, t4⟩, -, x2⟩ := five_c K5
    clear K1 K5
    go_wp2_with (go_at_call 75; refine (HC.out _).mono ?_; rintro r w2 ⟨v, rfl, hown, hb4⟩; obtain ⟨Av, cv, rfl⟩ := own_slice hown)
    go_ret2
    exact ⟨_, rfl, World.ownsRow.mono hown K3.size, K3.trans (hb4.mono K3.size)⟩

/-- Answers, whatever it is asked. -/
theorem apAnswers_any (ids : Value) (a : Ar) (m : Mv) (w : World) (hin : ArIn w ids a) :
    Calls Tryz.prog 29 #[arV ids a, mvV m] w fun r w' => ∃ v, r = .returned (.tuple #[v, .int .i64 ((ansR a m).2 : Int)]) ∧ SlM w' v (ansR a m).1 ∧ Below w.heap.size w w' := by
  cases apCase ids a m with
  | bad e h0 he ha hu =>
    rw [ha]
    exact (answers_bad ids a m e w hin h0 he).mono fun r w' ⟨h1, h2⟩ => ⟨_, h1, nil_in w', h2⟩
  | ok p h0 hp hk hk2 ha hu =>
    rw [ha]
    exact (answers_ok ids a m p w hin h0 hp hk hk2).mono fun r w' ⟨v, h1, h2, h3⟩ => ⟨v, h1, SlM.of_own h2, h3⟩
/-- Under, whatever it is asked. -/
theorem apUnder_any (ids : Value) (a : Ar) (m : Mv) (w : World) (hin : ArIn w ids a) :
    Calls Tryz.prog 30 #[arV ids a, mvV m] w fun r w' => ∃ v, r = .returned (.tuple #[v, .int .i64 ((undR a m).2 : Int)]) ∧ SlM w' v (undR a m).1 ∧ Below w.heap.size w w' := by
  cases apCase ids a m with
  | bad e h0 he ha hu =>
    rw [hu]
    exact (under_bad ids a m e w hin h0 he).mono fun r w' ⟨h1, h2⟩ => ⟨_, h1, nil_in w', h2⟩
  | ok p h0 hp hk hk2 ha hu =>
    rw [hu]
    have hpl : plAt a m.id m.arg = some p := by
      unfold placeM at hp
      cases hq : plAt a m.id m.arg with
      | none => rw [hq] at hp; cases hp
      | some q =>
        rw [hq] at hp
        dsimp only at hp
        split at hp
        · rw [Option.some.inj hp]
        · cases hp
    rw [← under_below a m p hpl]
    exact (under_any ids a m p w hin h0 hp hk).mono fun r w' ⟨v, h1, h2, h3⟩ => ⟨v, h1, SlM.of_own h2, h3⟩

/-- The same, with the memory: the list lies in memory of the call's own. -/
theorem apAnswers_own (ids : Value) (a : Ar) (m : Mv) (w : World) (hin : ArIn w ids a) :
    Calls Tryz.prog 29 #[arV ids a, mvV m] w fun r w' => ∃ v, r = .returned (.tuple #[v, .int .i64 ((ansR a m).2 : Int)]) ∧ w'.ownsRow w.heap.size 40 4 v (ansR a m).1.length (mvCells (ansR a m).1) ∧ Below w.heap.size w w' := by
  cases apCase ids a m with
  | bad e h0 he ha hu =>
    rw [ha]
    exact (answers_bad ids a m e w hin h0 he).mono fun r w' ⟨h1, h2⟩ => ⟨_, h1, World.ownsRow_nil _ _ _ _, h2⟩
  | ok p h0 hp hk hk2 ha hu =>
    rw [ha]
    exact answers_ok ids a m p w hin h0 hp hk hk2
theorem apUnder_own (ids : Value) (a : Ar) (m : Mv) (w : World) (hin : ArIn w ids a) :
    Calls Tryz.prog 30 #[arV ids a, mvV m] w fun r w' => ∃ v, r = .returned (.tuple #[v, .int .i64 ((undR a m).2 : Int)]) ∧ w'.ownsRow w.heap.size 40 4 v (undR a m).1.length (mvCells (undR a m).1) ∧ Below w.heap.size w w' := by
  cases apCase ids a m with
  | bad e h0 he ha hu =>
    rw [hu]
    exact (under_bad ids a m e w hin h0 he).mono fun r w' ⟨h1, h2⟩ => ⟨_, h1, World.ownsRow_nil _ _ _ _, h2⟩
  | ok p h0 hp hk hk2 ha hu =>
    rw [hu]
    have hpl : plAt a m.id m.arg = some p := by
      unfold placeM at hp
      cases hq : plAt a m.id m.arg with
      | none => rw [hq] at hp; cases hp
      | some q =>
        rw [hq] at hp
        dsimp only at hp
        split at hp
        · rw [Option.some.inj hp]
        · cases hp
    rw [← under_below a m p hpl]
    exact under_any ids a m p w hin h0 hp hk

end Go.Proofs.YtoncdnelacolaaaGreatDoor.Ar

namespace Go.Proofs.YtoncdnelacolaaaGreatDoor.Ar
open Go Go.Proofs Go.RowKit Go.Sort Lx Ps

theorem placeM_pl {a : Ar} {m : Mv} {p : Pl} (hp : placeM a m = some p) : plAt a m.id m.arg = some p := by
  unfold placeM at hp
  cases hq : plAt a m.id m.arg with
  | none => rw [hq] at hp; cases hp
  | some q =>
    rw [hq] at hp
    dsimp only at hp
    split at hp
    · rw [Option.some.inj hp]
    · cases hp
theorem pl_of {a : Ar} {m : Mv} (h : moveE a m = 0) : ∃ p, plAt a m.id m.arg = some p := by
  unfold moveE at h
  split at h
  · contradiction
  · split at h
    · rename_i hs
      cases hp : placeM a m with
      | none => rw [hp] at hs; cases hs
      | some p => exact ⟨p, placeM_pl hp⟩
    · cases h

set_option maxRecDepth 100000 in
set_option maxHeartbeats 1000000 in
theorem refUnder_any (ids : Value) (a : Ar) (m : Mv) (w : World) (hin : ArIn w ids a) :
    Calls Tryz.prog 33 #[arV ids a, mvV m] w fun r w' => ∃ v, r = .returned (.tuple #[v, .int .i64 ((undR a m).2 : Int)]) ∧ SlM w' v (undR a m).1 ∧ Below w.heap.size w w' := by
  have hM := fun W (hb : Below w.heap.size w W) => refMove_any ids a m W (hin.below hb)
  have hA := fun W => refAsk_any m W
  have hT : moveE a m = 0 → ∀ W, Below w.heap.size w W → Calls Tryz.prog 85 #[arV ids a, mvV m] W fun e w' => ∃ v, e = .returned v ∧ w'.ownsRow W.heap.size 40 4 v (belowA a m.id m.arg).length (mvCells (belowA a m.id m.arg)) ∧ Below W.heap.size W w' := fun h W hb =>
    (by
      obtain ⟨p, hp⟩ := pl_of h
      exact refBelow_any ids a m p W (hin.below hb) (moveE_right h) hp)
  unfold undR
  by_cases he : moveE a m = 0
  · rw [if_neg (by simp [he])]
    have HT := Lib.hid (hT he)
    rw [he] at hM
    have HM := Lib.hid hM
    clear hM he hT
    cases hk : askB m
    · rw [if_pos rfl]
      obtain ⟨A, cap, rfl, -⟩ := hin.sl
      clear hin
      obtain ⟨k0, k1⟩ := blocks2 w (.cells #[.slice A a.ids.length cap, .bool a.root.cell, .int .i64 a.root.n, .bool a.jumps] 26) (.cells #[.int .i64 m.id, .int .i64 m.arg, .int .u8 (m.kind : Int), .int .i64 m.n] 40)
      have hb0 : Below w.heap.size w ((w.alloc (.cells #[.slice A a.ids.length cap, .bool a.root.cell, .int .i64 a.root.n, .bool a.jumps] 26)).alloc (.cells #[.int .i64 m.id, .int .i64 m.arg, .int .u8 (m.kind : Int), .int .i64 m.n] 40)) := below_two
      unfold arV mvV at *
      go_enter Tryz.func33, Tryz.ntmps33
      go_upto_region 1 with (fail)
      generalize (w.alloc (.cells #[.slice A a.ids.length cap, .bool a.root.cell, .int .i64 a.root.n, .bool a.jumps] 26)).alloc (.cells #[.int .i64 m.id, .int .i64 m.arg, .int .u8 (m.kind : Int), .int .i64 m.n] 40) = V at k0 k1 hb0 ⊢
      obtain ⟨⟨c0, c1, c2, c3⟩, -, hl0⟩ := four_c k0
      obtain ⟨⟨d0, d1, d2, d3⟩, -, hl1⟩ := four_c k1
      have HK0 := Lib.hid k0
      have HK1 := Lib.hid k1
      clear k0 k1
      rw [hk] at hA
      have HA := Lib.hid hA
      clear hA hk HT
      go_wp2_with (first
        | (go_at_call 81; refine (HM.out _ hb0).mono ?_; rintro r w1 ⟨rfl, hb1⟩; have hb2 := hb0.trans (hb1.mono hb0.size); obtain ⟨⟨s0, s1, s2, s3⟩, -, -⟩ := four_c (heap_below hb1 hl1 HK1.out))
        | (go_at_call 83; refine (HA.out _).mono ?_; rintro r w2 ⟨rfl, hb3⟩))
      refine bodyPost_ret (v := .tuple #[.slice none 0 0, .int .i64 2]) (by simp [results, Tryz.results33, go_sem]) rfl ⟨_, rfl, nil_in _, hb2.trans (hb3.mono hb2.size)⟩
    · rw [if_neg (by simp)]
      have HT := Lib.hid (HT.out)
      show Calls _ _ _ _ fun r w' => ∃ v, r = .returned (.tuple #[v, .int .i64 0]) ∧ SlM w' v (belowA a m.id m.arg) ∧ Below w.heap.size w w'
      have HT := HT.out
      generalize belowA a m.id m.arg = L at *
      have HT := Lib.hid HT
      obtain ⟨A, cap, rfl, -⟩ := hin.sl
      clear hin
      obtain ⟨k0, k1⟩ := blocks2 w (.cells #[.slice A a.ids.length cap, .bool a.root.cell, .int .i64 a.root.n, .bool a.jumps] 26) (.cells #[.int .i64 m.id, .int .i64 m.arg, .int .u8 (m.kind : Int), .int .i64 m.n] 40)
      have hb0 : Below w.heap.size w ((w.alloc (.cells #[.slice A a.ids.length cap, .bool a.root.cell, .int .i64 a.root.n, .bool a.jumps] 26)).alloc (.cells #[.int .i64 m.id, .int .i64 m.arg, .int .u8 (m.kind : Int), .int .i64 m.n] 40)) := below_two
      unfold arV mvV at *
      go_enter Tryz.func33, Tryz.ntmps33
      go_upto_region 1 with (fail)
      generalize (w.alloc (.cells #[.slice A a.ids.length cap, .bool a.root.cell, .int .i64 a.root.n, .bool a.jumps] 26)).alloc (.cells #[.int .i64 m.id, .int .i64 m.arg, .int .u8 (m.kind : Int), .int .i64 m.n] 40) = V at k0 k1 hb0 ⊢
      obtain ⟨⟨c0, c1, c2, c3⟩, -, hl0⟩ := four_c k0
      obtain ⟨⟨d0, d1, d2, d3⟩, -, hl1⟩ := four_c k1
      have HK0 := Lib.hid k0
      have HK1 := Lib.hid k1
      clear k0 k1
      rw [hk] at hA
      have HA := Lib.hid hA
      clear hA hk
      go_wp2_with (first
        | (go_at_call 81; refine (HM.out _ hb0).mono ?_; rintro r w1 ⟨rfl, hb1⟩; have hb2 := hb0.trans (hb1.mono hb0.size); have z0 := heap_below hb1 hl0 HK0.out; have z1 := heap_below hb1 hl1 HK1.out; obtain ⟨⟨s0, s1, s2, s3⟩, -, y1⟩ := four_c z1; have y0 := (Array.getElem?_eq_some_iff.1 z0).1; have Z0 := Lib.hid z0; have Z1 := Lib.hid z1; clear z0 z1)
        | (go_at_call 83; refine (HA.out _).mono ?_; rintro r w2 ⟨rfl, hb3⟩; have hb4 := hb2.trans (hb3.mono hb2.size); obtain ⟨⟨t0, t1, t2, t3⟩, -, -⟩ := four_c (heap_below hb3 y1 Z1.out); obtain ⟨⟨u0, u1, u2, u3⟩, -, -⟩ := four_c (heap_below hb3 y0 Z0.out))
        | (go_at_call 85; refine (HT.out _ hb4).mono ?_; rintro r w3 ⟨v, rfl, hown, hb5⟩; have hsl := SlM.of_own hown; obtain ⟨Av, cv, rfl⟩ := own_slice hown))
      refine bodyPost_ret (v := .tuple #[.slice Av L.length cv, .int .i64 0]) (by simp [results, Tryz.results33, go_sem]) rfl ⟨_, rfl, hsl, hb4.trans (hb5.mono hb4.size)⟩
  · rw [if_pos he]
    have hne : (((moveE a m : Nat) : Int) != 0) = true := by simp; omega
    clear he hT
    generalize moveE a m = e at *
    obtain ⟨A, cap, rfl, -⟩ := hin.sl
    clear hin
    obtain ⟨k0, k1⟩ := blocks2 w (.cells #[.slice A a.ids.length cap, .bool a.root.cell, .int .i64 a.root.n, .bool a.jumps] 26) (.cells #[.int .i64 m.id, .int .i64 m.arg, .int .u8 (m.kind : Int), .int .i64 m.n] 40)
    have hb0 : Below w.heap.size w ((w.alloc (.cells #[.slice A a.ids.length cap, .bool a.root.cell, .int .i64 a.root.n, .bool a.jumps] 26)).alloc (.cells #[.int .i64 m.id, .int .i64 m.arg, .int .u8 (m.kind : Int), .int .i64 m.n] 40)) := below_two
    unfold arV mvV at *
    go_enter Tryz.func33, Tryz.ntmps33
    go_upto_region 1 with (fail)
    generalize (w.alloc (.cells #[.slice A a.ids.length cap, .bool a.root.cell, .int .i64 a.root.n, .bool a.jumps] 26)).alloc (.cells #[.int .i64 m.id, .int .i64 m.arg, .int .u8 (m.kind : Int), .int .i64 m.n] 40) = V at k0 k1 hb0 ⊢
    obtain ⟨⟨c0, c1, c2, c3⟩, -, hl0⟩ := four_c k0
    obtain ⟨⟨d0, d1, d2, d3⟩, -, hl1⟩ := four_c k1
    have HK0 := Lib.hid k0
    have HK1 := Lib.hid k1
    clear k0 k1
    have HM := Lib.hid hM
    clear hM hA
    go_wp2_with (go_at_call 81; refine (HM.out _ hb0).mono ?_; rintro r w1 ⟨rfl, hb1⟩)
    refine bodyPost_ret (v := .tuple #[.slice none 0 0, .int .i64 (e : Int)]) (by simp [results, Tryz.results33, go_sem]) rfl ⟨_, rfl, nil_in _, hb0.trans (hb1.mono hb0.size)⟩

end Go.Proofs.YtoncdnelacolaaaGreatDoor.Ar
