/- Parse: the move that a text says. -/
import Derived.Test.YtoncdnelacolaaaGreatDoorATextC
import Derived.Test.YtoncdnelacolaaaGreatDoorASpecB
import Derived.Lib.AtoiAllCases
import Derived.Lib.SmallJoins
import Derived.Lib.IndexBytes
import Derived.Maps.StringElems
namespace Go.Proofs.YtoncdnelacolaaaGreatDoor.Ar
open Go Go.Proofs Go.RowKit Lx Ps

theorem numI_bounds (l : List UInt8) : -9223372036854775808 ≤ numI l ∧ numI l ≤ 9223372036854775807 := by
  unfold numI
  cases h : Lib.atoiAll l
  case ok v => exact Lib.atoiAll_bounds h
  case range =>
    dsimp only
    unfold Lib.atoiSat
    split <;> constructor <;> omega
  dsimp only
  constructor <;> omega
theorem cut_len (s t : List UInt8) : (Lib.cut s t).1.length ≤ s.length ∧ (Lib.cut s t).2.1.length ≤ s.length := by
  unfold Lib.cut
  split
  · simp; omega
  · simp

theorem atoi_any (l : List UInt8) (w : World) (hl : l.length ≤ 4294967000) (hG : Ga w) :
    Calls Tryz.prog 144 #[.string (strB l)] w fun e w' => (∃ x, e = .returned (.tuple #[.int .i64 (numI l), x])) ∧ Below w.heap.size w w' := by
  obtain ⟨h1, h2, ⟨te, pe, h3⟩, ⟨te2, pe2, h4⟩, m, h5⟩ := hG
  have hs : (strB l).size ≤ 4294967000 := by rw [strB_size]; exact hl
  unfold numI
  cases h : Lib.atoiAll l
  case ok v =>
    refine (Tryz.strconv_Atoi_ok (strB l) (by omega) v h w).mono ?_
    rintro e w' ⟨rfl, hw⟩
    refine ⟨⟨_, rfl⟩, ?_⟩
    rcases hw with rfl | ⟨t, rfl⟩
    · exact Below.refl _ _
    · exact Joins.below_bytesWorld _ _ _ _ (Nat.le_refl _)
  case range =>
    refine (Tryz.strconv_Atoi_range (strB l) (by omega) h _ w h3 (.inr ⟨_, _, rfl⟩)).mono ?_
    rintro e w' ⟨N, rfl, _, _, hb⟩
    exact ⟨⟨_, rfl⟩, hb⟩
  refine (Tryz.strconv_Atoi_syntax (strB l) (by omega) h _ w h4 (.inr ⟨_, _, rfl⟩)).mono ?_
  rintro e w' ⟨N, rfl, _, _, hb⟩
  exact ⟨⟨_, rfl⟩, hb⟩

theorem cut_any (s t : List UInt8) (w : World) (hs : s.length < 4294967281) (hG : Ga w) :
    Calls Tryz.prog 127 #[.string (strB s), .string (strB t)] w fun e w' => e = .returned (.tuple #[.string (strB (Lib.cut s t).1), .string (strB (Lib.cut s t).2.1), .bool (Lib.cut s t).2.2]) ∧ Below w.heap.size w w' := by
  obtain ⟨m, hm⟩ := hG.mx
  refine (Tryz.strings_Cut (strB s) (strB t) m w (by rw [strB_size]; exact hs) hm).mono ?_
  rintro e w' ⟨rfl, n, rfl⟩
  exact ⟨rfl, rfl, rfl, rfl, Nat.le_refl _, fun _ _ => rfl⟩

set_option maxRecDepth 100000 in
set_option maxHeartbeats 1000000 in
theorem number_any (l : List UInt8) (w : World) (hl : l.length ≤ 4294967000) (hG : Ga w) :
    Calls Tryz.prog 128 #[.string (strB l)] w fun e w' => e = .returned (.int .i64 (numI l)) ∧ Below w.heap.size w w' := by
  have hA := atoi_any l w hl hG
  generalize strB l = s at *
  generalize numI l = n at *
  go_enter Tryz.func128, Tryz.ntmps128
  go_wp2_with (go_at_call 144; refine hA.mono ?_; rintro e w1 ⟨⟨x, rfl⟩, hb1⟩)
  go_ret
  exact ⟨rfl, hb1⟩

/-- A move as it is returned. -/
theorem moveOfL_ok (s : List UInt8) (k : Nat) (hk : k < 256) : MvOk (moveOfL s k) := by
  unfold moveOfL
  dsimp only
  have h1 := numI_bounds (Lib.cut (Lib.cut s (signL k)).1 [46]).1
  have h2 := numI_bounds (Lib.cut (Lib.cut s (signL k)).1 [46]).2.1
  have h3 := numI_bounds (Lib.cut s (signL k)).2.1
  refine ⟨h1.1, h1.2, h2.1, h2.2, hk, ?_, ?_⟩
  · dsimp only; split <;> omega
  · dsimp only; split <;> omega

set_option maxRecDepth 100000 in
set_option maxHeartbeats 1000000 in
theorem moveOf_any (s : List UInt8) (k : Nat) (w : World) (hs : s.length ≤ 4294967000) (hG : Ga w) :
    Calls Tryz.prog 98 #[.string (strB s), .int .u8 (k : Int), .string (strB (signL k))] w fun e w' => e = .returned (mvV (moveOfL s k)) ∧ Below w.heap.size w w' := by
  have hC : ∀ t V, Below w.heap.size w V → Calls Tryz.prog 127 #[.string (strB s), .string (strB t)] V fun e w' => e = .returned (.tuple #[.string (strB (Lib.cut s t).1), .string (strB (Lib.cut s t).2.1), .bool (Lib.cut s t).2.2]) ∧ Below V.heap.size V w' := fun t V hb => cut_any s t V (by omega) (hG.next hb)
  have hC2 : ∀ V, Below w.heap.size w V → Calls Tryz.prog 127 #[.string (strB (Lib.cut s (signL k)).1), .string ⟨#[46]⟩] V fun e w' => e = .returned (.tuple #[.string (strB (Lib.cut (Lib.cut s (signL k)).1 [46]).1), .string (strB (Lib.cut (Lib.cut s (signL k)).1 [46]).2.1), .bool (Lib.cut (Lib.cut s (signL k)).1 [46]).2.2]) ∧ Below V.heap.size V w' := fun V hb => cut_any _ [46] V (by have := cut_len s (signL k); omega) (hG.next hb)
  have hN : ∀ l V, l.length ≤ s.length → Below w.heap.size w V → Calls Tryz.prog 128 #[.string (strB l)] V fun e w' => e = .returned (.int .i64 (numI l)) ∧ Below V.heap.size V w' := fun l V hl hb => number_any l V (by omega) (hG.next hb)
  have l1 := cut_len s (signL k)
  have l2 := cut_len (Lib.cut s (signL k)).1 [46]
  have hm : mvV (moveOfL s k) = .agg #[.int .i64 (numI (Lib.cut (Lib.cut s (signL k)).1 [46]).1), .int .i64 (numI (Lib.cut (Lib.cut s (signL k)).1 [46]).2.1), .int .u8 (k : Int), .int .i64 (if (Lib.cut s (signL k)).2.1 = [42] then -1 else numI (Lib.cut s (signL k)).2.1)] := rfl
  rw [hm]
  clear hm
  have hC1 := hC (signL k)
  clear hC
  have he : ∀ l, (strB l = (⟨#[42]⟩ : ByteArray)) ↔ l = [42] := fun l => ⟨fun h => by
    have := congrArg (fun x : ByteArray => x.data.toList) h
    simpa [strB] using this, fun h => by rw [h]; rfl⟩
  have He := he (Lib.cut s (signL k)).2.1
  have HN := Lib.hid hN
  clear hN he
  generalize Lib.cut (Lib.cut s (signL k)).1 [46] = p at *
  generalize Lib.cut s (signL k) = c at *
  obtain ⟨c1, c2, c3⟩ := c
  obtain ⟨p1, p2, p3⟩ := p
  dsimp only at *
  have L1 : p1.length ≤ s.length := by omega
  have L2 : p2.length ≤ s.length := by omega
  have L3 : c2.length ≤ s.length := by omega
  clear l1 l2 hG hs
  generalize strB c1 = sc1 at *
  generalize s.length = N at *
  generalize strB s = ss at *
  generalize strB (signL k) = sg at *
  have HC1 := Lib.hid hC1
  have HC2 := Lib.hid hC2
  have HE := Lib.hid He
  clear hC1 hC2 He
  have hb0 : Below w.heap.size w (w.alloc (.cells #[.int .i64 0, .int .i64 0, .int .u8 0, .int .i64 0] 40)) := (Below.refl _ _).alloc (Nat.le_refl _) _
  have K := heap_alloc_new w (.cells #[.int .i64 0, .int .i64 0, .int .u8 0, .int .i64 0] 40)
  go_enter Tryz.func98, Tryz.ntmps98
  go_upto_region 1 with (fail)
  generalize w.alloc (.cells #[.int .i64 0, .int .i64 0, .int .u8 0, .int .i64 0] 40) = V at K hb0 ⊢
  have hVl : w.heap.size < V.heap.size := (Array.getElem?_eq_some_iff.1 K).1
  have HK := Lib.hid K
  clear K
  go_upto_region 2 with (go_at_call 127; refine (HC1.out _ hb0).mono ?_; rintro e w1 ⟨rfl, hb1⟩; have hb2 := hb0.trans (hb1.mono hb0.size))
  go_upto_region 3 with (go_at_call 127; refine (HC2.out _ hb2).mono ?_; rintro e w2 ⟨rfl, hb3⟩; have hb4 := hb2.trans (hb3.mono hb2.size))
  have hv4 := hb1.trans (hb3.mono hb1.size)
  clear hb1 hb2 hb3 HC1 HC2
  go_upto_region 4 with (go_at_call 128; refine (HN.out _ _ (by assumption) hb4).mono ?_; rintro e w3 ⟨rfl, hb5⟩; have hb4 := hb4.trans (hb5.mono hb4.size); have hv4 := hv4.trans (hb5.mono hv4.size))
  have J1 := heap_alloc_new w3 (.cells #[.int .i64 (numI p1), .int .i64 (numI p2), .int .u8 (k : Int), .int .i64 (numI c2)] 40)
  have hw3 : w.heap.size < w3.heap.size := Nat.lt_of_lt_of_le hVl hv4.size
  have J0 := heap_below ((Below.refl _ _).alloc (Nat.le_refl _) (.cells #[.int .i64 (numI p1), .int .i64 (numI p2), .int .u8 (k : Int), .int .i64 (numI c2)] 40)) hw3 (heap_below hv4 hVl HK.out)
  have hbU := hb4.alloc hb4.size (.cells #[.int .i64 (numI p1), .int .i64 (numI p2), .int .u8 (k : Int), .int .i64 (numI c2)] 40)
  generalize w3.alloc (.cells #[.int .i64 (numI p1), .int .i64 (numI p2), .int .u8 (k : Int), .int .i64 (numI c2)] 40) = U at J0 J1 hbU ⊢
  generalize w3.heap.size = B at *
  obtain ⟨⟨q0, q1, q2, q3⟩, ⟨f0, f1, f2, f3⟩, x2⟩ := four_c J0
  obtain ⟨⟨r0, r1, r2, r3⟩, ⟨g0, g1, g2, g3⟩, x3⟩ := four_c J1
  clear J0 J1 HK hVl hb0 HN L1 L2 L3
  have hneB : ¬ B = w.heap.size := by omega
  have hneB' : ¬ w.heap.size = B := by omega
  by_cases hc : c2 = [42]
  · skip
    have he1 := HE.out.2 hc
    generalize strB c2 = s2 at *
    subst he1
    go_wp2
    refine bodyPost_ret (v := .agg #[.int .i64 (numI p1), .int .i64 (numI p2), .int .u8 (k : Int), .int .i64 (-1)]) (by simp [results, Tryz.results98, go_sem, q0, q1, q2, q3]) rfl ⟨rfl, ?_⟩
    exact below4s (hbU.setCell (by show w.heap.size ≤ B; omega) _) (Nat.le_refl _)
  · skip
    have he1 : ¬ strB c2 = ⟨#[42]⟩ := fun e => hc (HE.out.1 e)
    have he2 : ((strB c2).toList == [42]) = false := by
      rw [ByteArray.toList_eq, strB_toList]
      simpa using hc
    generalize strB c2 = s2 at *
    go_wp2
    refine bodyPost_ret (v := .agg #[.int .i64 (numI p1), .int .i64 (numI p2), .int .u8 (k : Int), .int .i64 (numI c2)]) (by simp [results, Tryz.results98, go_sem, q0, q1, q2, q3]) rfl ⟨rfl, ?_⟩
    exact below4s hbU (Nat.le_refl _)

end Go.Proofs.YtoncdnelacolaaaGreatDoor.Ar

namespace Go.Proofs.YtoncdnelacolaaaGreatDoor.Ar
open Go Go.Proofs Go.RowKit Lx Ps
open Go.Maps

theorem sg_miss (k : Nat) (hk : isK k = false) (zd : DataW Unit) : sgD.atKey (.int .u8 (k : Int)) zd = zd := by
  have h : k ≠ 1 ∧ k ≠ 2 ∧ k ≠ 3 := by simp [isK] at hk; omega
  have n1 : (Lit.int .u8 (k : Int)) ≠ .int .u8 1 := by intro e; injection e with _ e; omega
  have n2 : (Lit.int .u8 (k : Int)) ≠ .int .u8 2 := by intro e; injection e with _ e; omega
  have n3 : (Lit.int .u8 (k : Int)) ≠ .int .u8 3 := by intro e; injection e with _ e; omega
  exact (atKey_put_other n3 _ _).trans ((atKey_put_other n2 _ _).trans ((atKey_put_other n1 _ _).trans rfl))
theorem isK_or {k : Nat} (h : isK k = true) : k = 1 ∨ k = 2 ∨ k = 3 := by simp [isK] at h; omega
theorem sg_key (x : Int) (c : ByteArray) (hwf : (Lit.int .u8 x).wf = true) (h : ∀ zd, sgD.atKey (.int .u8 x) zd = .lit (.string c.data.toList)) : ∃ k : Nat, x = k ∧ (k = 1 ∨ k = 2 ∨ k = 3) ∧ c = strB (signL k) := by
  have h1 : IntKind.min .u8 = 0 := by decide
  have h2 : IntKind.max .u8 = 255 := by decide
  have h3 : (decide (IntKind.min .u8 ≤ x) && decide (x ≤ IntKind.max .u8)) = true := hwf
  rw [h1, h2, Bool.and_eq_true, decide_eq_true_eq, decide_eq_true_eq] at h3
  obtain ⟨k, rfl⟩ : ∃ k : Nat, x = k := ⟨x.toNat, by omega⟩
  cases hk : isK k
  · have := h (.lit (.bool true))
    rw [sg_miss k hk] at this
    cases this
  · refine ⟨k, rfl, isK_or hk, ?_⟩
    have := h (.lit (.string []))
    rw [(sg_at k).1, hk] at this
    simp only [if_true, DataW.lit.injEq, Lit.string.injEq] at this
    rw [this, strB_eta]

/-- THE RANGE's STEP, int keys, string elements. -/
theorem next_ranges_is {H : Type} {P : Program} (w : World) {ops : Array Oper} {rest : List Oper} {o : Oper} {a : Act} {Q : Exit → Act → World → Prop}
    (hg : o.guard = none) (it : Operand) (hop : o.op = Op.next it false) (k e : TypeId) (qk : IntKind) (K : Keyed P k) (hk : P.underlying k = some (.int qk)) (he : P.underlying e = some .string)
    (b r n : Nat) (D : DataW H) (left : Lit → Bool) (cnt : Nat) (hit : a.eval it = .pointer (some ⟨r, 0, none⟩)) (h : w.ranges P k (plainElem P e) b r n D left cnt)
    (hDone : cnt = 0 → (∀ kl, left kl = false) → wpList P ops Q rest (a.put o.dst (.tuple #[.bool false])) w)
    (hMore : ∀ (x : Int) (c : ByteArray) (w' : World) (cnt' : Nat), (Lit.int qk x).wf = true → left (.int qk x) = true → (∀ zd, D.atKey (.int qk x) zd = .lit (.string c.data.toList)) → w'.ranges P k (plainElem P e) b r n D (fun z => left z && !z.sameKey (.int qk x)) cnt' → cnt' < cnt →
      w.grownBy w' (some r) → w'.heap.size = w.heap.size → (Instr.entry (.pointer (some ⟨r, 0, none⟩))).run P w' = .ok (.tuple #[.int qk x, .string c]) w' → wpList P ops Q rest (a.put o.dst (.tuple #[.bool true, .int qk x, .string c])) w') :
    wpList P ops Q (o :: rest) a w :=
  wpList_next_ranges w hg it hop k K (plainElem P e) (Value.int qk) Value.string (fun key kl hkey => by obtain ⟨x, rfl, _⟩ := Maps.keyOf_int_inv hk hkey; exact ⟨x, rfl⟩) (fun v y hv => by obtain ⟨c, rfl, _⟩ := plainElem_string_inv he hv; exact ⟨c, rfl⟩)
    b r n D left cnt hit h hDone (fun x c kl y w' cnt' hkey hlk hv hat hrg hlt hgr hsz hen => by
      obtain ⟨x', ex, rfl, hwx⟩ := Maps.keyOf_int_inv hk hkey
      cases ex
      obtain ⟨c', ec, rfl, _⟩ := plainElem_string_inv he hv
      cases ec
      exact hMore x c w' cnt' hwx hlk hat hrg hlt hgr hsz hen)

/-- What Parse returns. -/
def ParseP (s : List UInt8) (v : Value) : Prop :=
  (∃ k, (k = 1 ∨ k = 2 ∨ k = 3) ∧ tryK s k = some (moveOfL s k) ∧ v = .tuple #[mvV (moveOfL s k), .int .i64 0]) ∨
  ((∀ k, k = 1 ∨ k = 2 ∨ k = 3 → tryK s k = none) ∧ v = .tuple #[mvV ⟨0, 0, 0, 0⟩, .int .i64 4])

set_option maxRecDepth 100000 in
set_option maxHeartbeats 1000000 in
theorem parse_any (s : List UInt8) (w : World) (hs : s.length ≤ 4294967000) (hG : Ga w) :
    Calls Tryz.prog 42 #[.string (strB s)] w fun e w' => ∃ v, e = .returned v ∧ ParseP s v ∧ Below w.heap.size w w' := by
  have hM : ∀ k V, Below w.heap.size w V → Calls Tryz.prog 98 #[.string (strB s), .int .u8 (k : Nat), .string (strB (signL k))] V fun e w' => e = .returned (mvV (moveOfL s k)) ∧ Below V.heap.size V w' := fun k V hb => moveOf_any s k V hs (hG.next hb)
  have hT : ∀ k V, k < 256 → Below w.heap.size w V → Calls Tryz.prog 41 #[mvV (moveOfL s k)] V fun e w' => e = .returned (textR (moveOfL s k)) ∧ Below V.heap.size V w' := fun k V hk hb => text_any _ V (moveOfL_ok s k hk) (hG.next hb)
  have HM := Lib.hid hM
  have HT := Lib.hid hT
  clear hM hT hs hG
  have hb0 : Below w.heap.size w (w.alloc (.cells #[.int .i64 0, .int .i64 0, .int .u8 0, .int .i64 0] 40)) := (Below.refl _ _).alloc (Nat.le_refl _) _
  have K := heap_alloc_new w (.cells #[.int .i64 0, .int .i64 0, .int .u8 0, .int .i64 0] 40)
  go_enter Tryz.func42, Tryz.ntmps42
  go_upto_region 1 with (fail)
  generalize w.alloc (.cells #[.int .i64 0, .int .i64 0, .int .u8 0, .int .i64 0] 40) = V at K hb0 ⊢
  have hVl : w.heap.size < V.heap.size := (Array.getElem?_eq_some_iff.1 K).1
  have HK := Lib.hid K
  clear K
  go_wp2_with (first
    | (go_at_call 95; refine (signs_any V).mono ?_; rintro e w1 ⟨rfl, hsg, hb1⟩)
    | (at_range; refine wpList_range_own _ rfl _ 117 rfl 5 9 byte_keyed Tryz.underlying117 _ V.heap.size 3 _ rfl hsg ?_; intro w2 hrg0 hg0 hs0))
  go_frame
  have hv2 : Below V.heap.size V w2 := hb1.grown hg0 hb1.size (fun j e => by cases e)
  have hrz : V.heap.size ≤ w1.heap.size := hb1.size
  clear hg0 hs0 hb1 hsg
  generalize w1.heap.size = r at *
  go_loopw [] (fun wr => ∃ (left : Lit → Bool) (cnt : Nat), wr.ranges Tryz.prog 5 (plainElem (H := Unit) Tryz.prog 9) V.heap.size r 3 sgD left cnt ∧ Below V.heap.size V wr ∧ ∀ k : Nat, (k = 1 ∨ k = 2 ∨ k = 3) → left (.int .u8 (k : Int)) = false → tryK s k = none)
    (fun wr => wr.rangeLeft V.heap.size r)
  case atStart =>
    refine ⟨_, _, hrg0, hv2, fun k hk hl => ?_⟩
    rw [(sg_at k).2] at hl
    rcases hk with rfl | rfl | rfl <;> cases hl
  case round =>
    obtain ⟨left, cnt, hrg, hbv, hnone⟩ := hrel
    have Hnone := Lib.hid hnone
    clear hnone
    go_wp2_with (at_next; refine next_ranges_is _ rfl _ rfl 5 9 .u8 byte_keyed Tryz.underlying5 Tryz.underlying9 V.heap.size r 3 _ _ _ rfl hrg ?_ ?_)
    · intro hc0 hl0
      clear hrg
      have J0 := heap_below hbv hVl HK.out
      have hbw := hb0.trans (hbv.mono hb0.size)
      obtain ⟨⟨q0, q1, q2, q3⟩, ⟨f0, f1, f2, f3⟩, x2⟩ := four_c J0
      go_wp2
      refine bodyPost_ret (v := .tuple #[.agg #[.int .i64 0, .int .i64 0, .int .u8 0, .int .i64 0], .int .i64 4]) (by simp [results, Tryz.results42, go_sem, q0, q1, q2, q3]) rfl ⟨_, rfl, .inr ⟨fun k hk => Hnone.out k hk (hl0 _), rfl⟩, ?_⟩
      exact below4s hbw (Nat.le_refl _)
    · intro x c w3 cnt1 hwf hlf hat hrg1 hlt hgr hsz hen
      obtain ⟨k, rfl, hk, rfl⟩ := sg_key x c hwf hat
      have Hrl := Lib.hid hrg.left_eq
      have hbv3 : Below V.heap.size V w3 := hbv.grown hgr hbv.size (fun j e => by injection e; omega)
      have hbw3 := hb0.trans (hbv3.mono hb0.size)
      have hcm := HM.out k w3 hbw3
      have Hcm := Lib.hid hcm
      have hct := fun U hb => HT.out k U (by omega) hb
      have Hct := Lib.hid hct
      have hok : tryK s k = if okText (moveOfL s k) = true ∧ textL (moveOfL s k) = s then some (moveOfL s k) else none := rfl
      have hP : tryK s k = some (moveOfL s k) → ParseP s (.tuple #[mvV (moveOfL s k), .int .i64 0]) := fun h => .inl ⟨k, hk, h, rfl⟩
      clear hcm hct hrg hat hwf
      have hK1 : k < 256 := by omega
      have hnx : tryK s k = none → ∀ k' : Nat, (k' = 1 ∨ k' = 2 ∨ k' = 3) → (left (.int .u8 (k' : Int)) && !(Lit.int .u8 (k' : Int)).sameKey (.int .u8 (k : Int))) = false → tryK s k' = none := fun h0 k' hk' hl => by
        cases h1 : left (.int .u8 (k' : Int))
        · exact Hnone.out k' hk' h1
        · rw [h1, Bool.true_and] at hl
          have h2 : (Lit.int .u8 (k' : Int)).sameKey (.int .u8 (k : Int)) = true := by simpa using hl
          have h3 := WideAt.sameKey_eq h2
          injection h3 with _ h3
          have h4 : k' = k := by omega
          rw [h4]; exact h0
      generalize moveOfL s k = m at *
      have Hok := Lib.hid hok
      have HP := Lib.hid hP
      have Hnx := Lib.hid hnx
      clear hok hP hnx
      unfold mvV at Hcm Hct
      go_upto_region 5 with (go_at_call 98; refine Hcm.out.mono ?_; rintro e w4 ⟨rfl, hb4⟩)
      have J1 := heap_alloc_new w4 (.cells #[.int .i64 m.id, .int .i64 m.arg, .int .u8 (m.kind : Int), .int .i64 m.n] 40)
      have hbU3 : Below w3.heap.size w3 (w4.alloc (.cells #[.int .i64 m.id, .int .i64 m.arg, .int .u8 (m.kind : Int), .int .i64 m.n] 40)) := hb4.alloc hb4.size _
      have hlow : w.heap.size < w4.heap.size := Nat.lt_of_lt_of_le (Nat.lt_of_lt_of_le hVl hbv3.size) hb4.size
      generalize w4.alloc (.cells #[.int .i64 m.id, .int .i64 m.arg, .int .u8 (m.kind : Int), .int .i64 m.n] 40) = U at J1 hbU3 ⊢
      generalize w4.heap.size = B at *
      obtain ⟨⟨r0, r1, r2, r3⟩, -, x3⟩ := four_c J1
      have HJ1 := Lib.hid J1
      have hctU := Hct.out U (hbw3.trans (hbU3.mono hbw3.size))
      have HcU := Lib.hid hctU
      clear J1 Hct Hcm hctU
      by_cases hgo : okText m = true
      · have hr : textR m = .tuple #[.string (strB (textL m)), .int .i64 0] := by unfold textR; rw [if_pos hgo]
        rw [hr] at HcU
        by_cases heq : textL m = s
        · have ht : tryK s k = some m := by rw [Hok.out, if_pos ⟨hgo, heq⟩]
          have hpp := HP.out ht
          rw [heq] at HcU
          unfold mvV at hpp
          have he2 : ((strB s).toList == (strB s).toList) = true := by simp
          have HPP := Lib.hid hpp
          have hneB : ¬ B = w.heap.size := by omega
          clear hr ht heq hgo hpp
          go_upto_region 6 with (go_at_call 41; refine HcU.out.mono ?_; rintro e w5 ⟨rfl, hb5⟩)
          have hb6 := hbU3.trans (hb5.mono hbU3.size)
          have hbv5 := hbv3.trans (hb6.mono hbv3.size)
          have hbw5 := hb0.trans (hbv5.mono hb0.size)
          obtain ⟨⟨t0, t1, t2, t3⟩, -, x5⟩ := four_c (heap_below hb5 x3 HJ1.out)
          obtain ⟨⟨q0, q1, q2, q3⟩, ⟨f0, f1, f2, f3⟩, x2⟩ := four_c (heap_below hbv5 hVl HK.out)
          clear hrg1 r0 r1 r2 r3 hb6 hbv5 hb5 hb4 hbU3 hen HcU
          go_wp2
          refine bodyPost_ret (v := .tuple #[.agg #[.int .i64 m.id, .int .i64 m.arg, .int .u8 (m.kind : Int), .int .i64 m.n], .int .i64 0]) (by simp [results, Tryz.results42, go_sem, q0, q1, q2, q3]) rfl ⟨_, rfl, HPP.out, ?_⟩
          exact below4s hbw5 (Nat.le_refl _)
        · have ht : tryK s k = none := by rw [Hok.out, if_neg (fun h => heq h.2)]
          have he2 : ((strB (textL m)).toList == (strB s).toList) = false := by
            rw [ByteArray.toList_eq, ByteArray.toList_eq, strB_toList, strB_toList]
            simpa using heq
          have HN := Lib.hid (Hnx.out ht)
          clear hr ht heq hgo
          generalize strB (textL m) = st at *
          go_wp2_with (go_at_call 41; refine HcU.out.mono ?_; rintro e w5 ⟨rfl, hb5⟩)
          go_roundw
          case rel =>
            have hb6 := hbU3.trans (hb5.mono hbU3.size)
            refine ⟨_, _, hrg1.kept (row := none) ⟨hb6.os, hb6.tape, hb6.output, hb6.size, fun i hi _ => hb6.block i hi⟩ (by simp) (by simp), hbv3.trans (hb6.mono hbv3.size), HN.out⟩
          case measure =>
            have hb6 := hbU3.trans (hb5.mono hbU3.size)
            rw [Hrl.out, (hrg1.kept (row := none) ⟨hb6.os, hb6.tape, hb6.output, hb6.size, fun i hi _ => hb6.block i hi⟩ (by simp) (by simp)).left_eq]
            exact hlt
      · have hr : textR m = .tuple #[.string ⟨#[]⟩, .int .i64 4] := by unfold textR; rw [if_neg hgo]
        rw [hr] at HcU
        have ht : tryK s k = none := by rw [Hok.out, if_neg (fun h => hgo h.1)]
        have HN := Lib.hid (Hnx.out ht)
        clear hr ht hgo
        go_wp2_with (go_at_call 41; refine HcU.out.mono ?_; rintro e w5 ⟨rfl, hb5⟩)
        go_roundw
        case rel =>
          have hb6 := hbU3.trans (hb5.mono hbU3.size)
          refine ⟨_, _, hrg1.kept (row := none) ⟨hb6.os, hb6.tape, hb6.output, hb6.size, fun i hi _ => hb6.block i hi⟩ (by simp) (by simp), hbv3.trans (hb6.mono hbv3.size), HN.out⟩
        case measure =>
          have hb6 := hbU3.trans (hb5.mono hbU3.size)
          rw [Hrl.out, (hrg1.kept (row := none) ⟨hb6.os, hb6.tape, hb6.output, hb6.size, fun i hi _ => hb6.block i hi⟩ (by simp) (by simp)).left_eq]
          exact hlt

end Go.Proofs.YtoncdnelacolaaaGreatDoor.Ar
