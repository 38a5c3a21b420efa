/- The number that a text says; the move of a kind that a text says. -/
import Derived.Test.YtoncdnelacolaaaGreatDoorATextC
import Derived.Test.YtoncdnelacolaaaGreatDoorASpecB
import Derived.Lib.AtoiAllCases
import Derived.Lib.SmallJoins
import Derived.Lib.IndexBytes
namespace Go.Proofs.YtoncdnelacolaaaGreatDoor.Ar
open Go Go.Proofs Go.RowKit Lx Ps

theorem numI_bounds (l : List UInt8) : -9223372036854775808 ≤ numI l ∧ numI l ≤ 9223372036854775807 := by
  unfold numI
  cases h : Lib.atoiAll l
  case ok v => exact Lib.atoiAll_bounds h
  case range =>
    dsimp only
    unfold Lib.atoiSat
    split <;> constructor <;> omega
  dsimp only
  constructor <;> omega
theorem cut_len (s t : List UInt8) : (Lib.cut s t).1.length ≤ s.length ∧ (Lib.cut s t).2.1.length ≤ s.length := by
  unfold Lib.cut
  split
  · simp; omega
  · simp

theorem atoi_any (l : List UInt8) (w : World) (hl : l.length ≤ 4294967000) (hG : Ga w) :
    Calls Tryz.prog 144 #[.string (strB l)] w fun e w' => (∃ x, e = .returned (.tuple #[.int .i64 (numI l), x])) ∧ Below w.heap.size w w' := by
  obtain ⟨h1, h2, ⟨te, pe, h3⟩, ⟨te2, pe2, h4⟩, m, h5⟩ := hG
  have hs : (strB l).size ≤ 4294967000 := by rw [strB_size]; exact hl
  unfold numI
  cases h : Lib.atoiAll l
  case ok v =>
    refine (Tryz.strconv_Atoi_ok (strB l) (by omega) v h w).mono ?_
    rintro e w' ⟨rfl, hw⟩
    refine ⟨⟨_, rfl⟩, ?_⟩
    rcases hw with rfl | ⟨t, rfl⟩
    · exact Below.refl _ _
    · exact Joins.below_bytesWorld _ _ _ _ (Nat.le_refl _)
  case range =>
    refine (Tryz.strconv_Atoi_range (strB l) (by omega) h _ w h3 (.inr ⟨_, _, rfl⟩)).mono ?_
    rintro e w' ⟨N, rfl, _, _, hb⟩
    exact ⟨⟨_, rfl⟩, hb⟩
  refine (Tryz.strconv_Atoi_syntax (strB l) (by omega) h _ w h4 (.inr ⟨_, _, rfl⟩)).mono ?_
  rintro e w' ⟨N, rfl, _, _, hb⟩
  exact ⟨⟨_, rfl⟩, hb⟩

theorem cut_any (s t : List UInt8) (w : World) (hs : s.length < 4294967281) (hG : Ga w) :
    Calls Tryz.prog 127 #[.string (strB s), .string (strB t)] w fun e w' => e = .returned (.tuple #[.string (strB (Lib.cut s t).1), .string (strB (Lib.cut s t).2.1), .bool (Lib.cut s t).2.2]) ∧ Below w.heap.size w w' := by
  obtain ⟨m, hm⟩ := hG.mx
  refine (Tryz.strings_Cut (strB s) (strB t) m w (by rw [strB_size]; exact hs) hm).mono ?_
  rintro e w' ⟨rfl, n, rfl⟩
  exact ⟨rfl, rfl, rfl, rfl, Nat.le_refl _, fun _ _ => rfl⟩

set_option maxRecDepth 100000 in
set_option maxHeartbeats 1000000 in
theorem number_any (l : List UInt8) (w : World) (hl : l.length ≤ 4294967000) (hG : Ga w) :
    Calls Tryz.prog 128 #[.string (strB l)] w fun e w' => e = .returned (.int .i64 (numI l)) ∧ Below w.heap.size w w' := by
  have hA := atoi_any l w hl hG
  generalize strB l = s at *
  generalize numI l = n at *
  go_enter Tryz.func128, Tryz.ntmps128
  go_wp2_with (go_at_call 144; refine hA.mono ?_; rintro e w1 ⟨⟨x, rfl⟩, hb1⟩)
  go_ret
  exact ⟨rfl, hb1⟩

/-- A move as it is returned. -/
theorem moveOfL_ok (s : List UInt8) (k : Nat) (hk : k < 256) : MvOk (moveOfL s k) := by
  unfold moveOfL
  dsimp only
  have h1 := numI_bounds (Lib.cut (Lib.cut s (signL k)).1 [46]).1
  have h2 := numI_bounds (Lib.cut (Lib.cut s (signL k)).1 [46]).2.1
  have h3 := numI_bounds (Lib.cut s (signL k)).2.1
  refine ⟨h1.1, h1.2, h2.1, h2.2, hk, ?_, ?_⟩
  · dsimp only; split <;> omega
  · dsimp only; split <;> omega

set_option maxRecDepth 100000 in
set_option maxHeartbeats 1000000 in
theorem moveOf_any (s : List UInt8) (k : Nat) (w : World) (hs : s.length ≤ 4294967000) (hG : Ga w) :
    Calls Tryz.prog 98 #[.string (strB s), .int .u8 (k : Int), .string (strB (signL k))] w fun e w' => e = .returned (mvV (moveOfL s k)) ∧ Below w.heap.size w w' := by
  have hC : ∀ t V, Below w.heap.size w V → Calls Tryz.prog 127 #[.string (strB s), .string (strB t)] V fun e w' => e = .returned (.tuple #[.string (strB (Lib.cut s t).1), .string (strB (Lib.cut s t).2.1), .bool (Lib.cut s t).2.2]) ∧ Below V.heap.size V w' := fun t V hb => cut_any s t V (by omega) (hG.next hb)
  have hC2 : ∀ V, Below w.heap.size w V → Calls Tryz.prog 127 #[.string (strB (Lib.cut s (signL k)).1), .string ⟨#[46]⟩] V fun e w' => e = .returned (.tuple #[.string (strB (Lib.cut (Lib.cut s (signL k)).1 [46]).1), .string (strB (Lib.cut (Lib.cut s (signL k)).1 [46]).2.1), .bool (Lib.cut (Lib.cut s (signL k)).1 [46]).2.2]) ∧ Below V.heap.size V w' := fun V hb => cut_any _ [46] V (by have := cut_len s (signL k); omega) (hG.next hb)
  have hN : ∀ l V, l.length ≤ s.length → Below w.heap.size w V → Calls Tryz.prog 128 #[.string (strB l)] V fun e w' => e = .returned (.int .i64 (numI l)) ∧ Below V.heap.size V w' := fun l V hl hb => number_any l V (by omega) (hG.next hb)
  have l1 := cut_len s (signL k)
  have l2 := cut_len (Lib.cut s (signL k)).1 [46]
  have hm : mvV (moveOfL s k) = .agg #[.int .i64 (numI (Lib.cut (Lib.cut s (signL k)).1 [46]).1), .int .i64 (numI (Lib.cut (Lib.cut s (signL k)).1 [46]).2.1), .int .u8 (k : Int), .int .i64 (if (Lib.cut s (signL k)).2.1 = [42] then -1 else numI (Lib.cut s (signL k)).2.1)] := rfl
  rw [hm]
  clear hm
  have hC1 := hC (signL k)
  clear hC
  have he : ∀ l, (strB l = (⟨#[42]⟩ : ByteArray)) ↔ l = [42] := fun l => ⟨fun h => by
    have := congrArg (fun x : ByteArray => x.data.toList) h
    simpa [strB] using this, fun h => by rw [h]; rfl⟩
  have He := he (Lib.cut s (signL k)).2.1
  have HN := Lib.hid hN
  clear hN he
  generalize Lib.cut (Lib.cut s (signL k)).1 [46] = p at *
  generalize Lib.cut s (signL k) = c at *
  obtain ⟨c1, c2, c3⟩ := c
  obtain ⟨p1, p2, p3⟩ := p
  dsimp only at *
  have L1 : p1.length ≤ s.length := by omega
  have L2 : p2.length ≤ s.length := by omega
  have L3 : c2.length ≤ s.length := by omega
  clear l1 l2 hG hs
  generalize strB c1 = sc1 at *
  generalize s.length = N at *
  generalize strB s = ss at *
  generalize strB (signL k) = sg at *
  have HC1 := Lib.hid hC1
  have HC2 := Lib.hid hC2
  have HE := Lib.hid He
  clear hC1 hC2 He
  have hb0 : Below w.heap.size w (w.alloc (.cells #[.int .i64 0, .int .i64 0, .int .u8 0, .int .i64 0] 40)) := (Below.refl _ _).alloc (Nat.le_refl _) _
  have K := heap_alloc_new w (.cells #[.int .i64 0, .int .i64 0, .int .u8 0, .int .i64 0] 40)
  go_enter Tryz.func98, Tryz.ntmps98
  go_upto_region 1 with (fail)
  generalize w.alloc (.cells #[.int .i64 0, .int .i64 0, .int .u8 0, .int .i64 0] 40) = V at K hb0 ⊢
  have hVl : w.heap.size < V.heap.size := (Array.getElem?_eq_some_iff.1 K).1
  have HK := Lib.hid K
  clear K
  go_upto_region 2 with (go_at_call 127; refine (HC1.out _ hb0).mono ?_; rintro e w1 ⟨rfl, hb1⟩; have hb2 := hb0.trans (hb1.mono hb0.size))
  go_upto_region 3 with (go_at_call 127; refine (HC2.out _ hb2).mono ?_; rintro e w2 ⟨rfl, hb3⟩; have hb4 := hb2.trans (hb3.mono hb2.size))
  have hv4 := hb1.trans (hb3.mono hb1.size)
  clear hb1 hb2 hb3 HC1 HC2
  go_upto_region 4 with (go_at_call 128; refine (HN.out _ _ (by assumption) hb4).mono ?_; rintro e w3 ⟨rfl, hb5⟩; have hb4 := hb4.trans (hb5.mono hb4.size); have hv4 := hv4.trans (hb5.mono hv4.size))
  have J1 := heap_alloc_new w3 (.cells #[.int .i64 (numI p1), .int .i64 (numI p2), .int .u8 (k : Int), .int .i64 (numI c2)] 40)
  have hw3 : w.heap.size < w3.heap.size := Nat.lt_of_lt_of_le hVl hv4.size
  have J0 := heap_below ((Below.refl _ _).alloc (Nat.le_refl _) (.cells #[.int .i64 (numI p1), .int .i64 (numI p2), .int .u8 (k : Int), .int .i64 (numI c2)] 40)) hw3 (heap_below hv4 hVl HK.out)
  have hbU := hb4.alloc hb4.size (.cells #[.int .i64 (numI p1), .int .i64 (numI p2), .int .u8 (k : Int), .int .i64 (numI c2)] 40)
  generalize w3.alloc (.cells #[.int .i64 (numI p1), .int .i64 (numI p2), .int .u8 (k : Int), .int .i64 (numI c2)] 40) = U at J0 J1 hbU ⊢
  generalize w3.heap.size = B at *
  obtain ⟨⟨q0, q1, q2, q3⟩, ⟨f0, f1, f2, f3⟩, x2⟩ := four_c J0
  obtain ⟨⟨r0, r1, r2, r3⟩, ⟨g0, g1, g2, g3⟩, x3⟩ := four_c J1
  clear J0 J1 HK hVl hb0 HN L1 L2 L3
  have hneB : ¬ B = w.heap.size := by omega
  have hneB' : ¬ w.heap.size = B := by omega
  by_cases hc : c2 = [42]
  · skip
    have he1 := HE.out.2 hc
    generalize strB c2 = s2 at *
    subst he1
    go_wp2
    refine bodyPost_ret (v := .agg #[.int .i64 (numI p1), .int .i64 (numI p2), .int .u8 (k : Int), .int .i64 (-1)]) (by simp [results, Tryz.results98, go_sem, q0, q1, q2, q3]) rfl ⟨rfl, ?_⟩
    exact below4s (hbU.setCell (by show w.heap.size ≤ B; omega) _) (Nat.le_refl _)
  · skip
    have he1 : ¬ strB c2 = ⟨#[42]⟩ := fun e => hc (HE.out.1 e)
    have he2 : ((strB c2).toList == [42]) = false := by
      rw [ByteArray.toList_eq, strB_toList]
      simpa using hc
    generalize strB c2 = s2 at *
    go_wp2
    refine bodyPost_ret (v := .agg #[.int .i64 (numI p1), .int .i64 (numI p2), .int .u8 (k : Int), .int .i64 (numI c2)]) (by simp [results, Tryz.results98, go_sem, q0, q1, q2, q3]) rfl ⟨rfl, ?_⟩
    exact below4s hbU (Nat.le_refl _)

end Go.Proofs.YtoncdnelacolaaaGreatDoor.Ar
