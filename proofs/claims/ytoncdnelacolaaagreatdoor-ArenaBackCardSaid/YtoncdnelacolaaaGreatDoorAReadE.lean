/- Read: the arena with any text, or the error. -/
import Derived.Test.YtoncdnelacolaaaGreatDoorASpecL
import Derived.Test.YtoncdnelacolaaaGreatDoorAAddB
import Derived.Test.YtoncdnelacolaaaGreatDoorAParse
import Derived.Test.YtoncdnelacolaaaGreatDoorARefC
import Derived.Test.YtoncdnelacolaaaGreatDoorAShowC
import Derived.Test.YtoncdnelacolaaaGreatDoorAChain
namespace Go.Proofs.YtoncdnelacolaaaGreatDoor.Ar
open Go Go.Proofs Go.RowKit Go.Sort Lx Ps

/-- A slice value that holds texts. -/
def SlS (W : World) (v : Value) (l : List (List UInt8)) : Prop :=
  ∃ A cap, v = .slice A l.length cap ∧ (0 < l.length → ∃ b off, A = some ⟨b, off, none⟩ ∧ b < W.heap.size ∧ ∀ (i : Nat) (x : List UInt8), l[i]? = some x → W.cell? ⟨b, off + i, none⟩ = some (.string (strB x)))
theorem SlS.below {W W' : World} {v : Value} {l : List (List UInt8)} (h : SlS W v l) (hb : Below W.heap.size W W') : SlS W' v l := by
  obtain ⟨A, cap, rfl, hA⟩ := h
  refine ⟨A, cap, rfl, fun h0 => ?_⟩
  obtain ⟨b, off, rfl, hlt, hc⟩ := hA h0
  exact ⟨b, off, rfl, Nat.lt_of_lt_of_le hlt hb.size, fun i x hx => (hb.cell (p := ⟨b, off + i, none⟩) hlt).trans (hc i x hx)⟩
theorem splitK_len (sep : List UInt8) : ∀ (f : Nat) (s : List UInt8), (Lib.splitK sep 0 (Lib.countFrom sep f s) s).length = Lib.countFrom sep f s + 1
  | 0, s => rfl
  | f + 1, s => by
    rw [Lib.countFrom]
    split
    · rfl
    · rename_i h
      rw [Nat.add_comm 1, Lib.splitK, if_neg h, List.length_cons, splitK_len sep f]
theorem splitK_part (sep : List UInt8) : ∀ (k : Nat) (s x : List UInt8), x ∈ Lib.splitK sep 0 k s → x.length ≤ s.length
  | 0, s, x, h => by rw [Lib.splitK, List.mem_singleton] at h; rw [h]; exact Nat.le_refl _
  | k + 1, s, x, h => by
    rw [Lib.splitK] at h
    split at h
    · rw [List.mem_singleton] at h; rw [h]; exact Nat.le_refl _
    · rcases List.mem_cons.1 h with rfl | h
      · rw [List.length_take]; omega
      · have := splitK_part sep k _ x h
        rw [List.length_drop] at this; omega
theorem countF_le (sep : List UInt8) (hs : 1 ≤ sep.length) : ∀ (f : Nat) (s : List UInt8), Lib.countFrom sep f s ≤ s.length
  | 0, s => Nat.zero_le _
  | f + 1, s => by
    rw [Lib.countFrom]
    split
    · exact Nat.zero_le _
    · rename_i h
      have h1 := Lib.index_ge s sep
      have h2 : 0 ≤ Lib.index s sep := by
        have : Lib.index s sep ≠ -1 := by simpa using h
        omega
      have h3 := Lib.index_room s sep h2
      have h4 := countF_le sep hs f (s.drop ((Lib.index s sep).toNat + sep.length))
      rw [List.length_drop] at h4
      omega
theorem split_len (s sep : List UInt8) (hs : 1 ≤ sep.length) : (Lib.split s sep).length = Lib.count s sep + 1 ∧ (Lib.split s sep).length ≤ s.length + 1 := by
  have h1 : (Lib.split s sep).length = Lib.count s sep + 1 := splitK_len sep _ s
  have h2 := countF_le sep hs (s.length + 1) s
  unfold Lib.count at h1
  exact ⟨h1, by omega⟩
theorem split_part {s sep x : List UInt8} (h : x ∈ Lib.split s sep) : x.length ≤ s.length := splitK_part sep _ s x h
theorem split_any (s sep : List UInt8) (w : World) (hs : s.length ≤ 4294967000) (h1 : 1 ≤ sep.length) (hG : Ga w) :
    Calls Tryz.prog 130 #[.string (strB s), .string (strB sep)] w fun e w' => ∃ v, e = .returned v ∧ SlS w' v (Lib.split s sep) ∧ Below w.heap.size w w' := by
  obtain ⟨m, hm⟩ := hG.mx
  refine (Tryz.strings_Split (strB s) (strB sep) m w (by rw [strB_size]; omega) hm (by rw [strB_size]; exact h1)).mono ?_
  rintro e w' ⟨rfl, rfl⟩
  have hd : (Lib.splitB (strB sep) 0 (Lib.countB (strB s) (strB sep)) (strB s)).map (·.data.toList) = Lib.split s sep := Lib.splitB_data _ _ _ _
  have hl : (Lib.splitB (strB sep) 0 (Lib.countB (strB s) (strB sep)) (strB s)).length = (Lib.split s sep).length := by rw [← hd, List.length_map]
  have hn : Lib.countB (strB s) (strB sep) + 1 = (Lib.split s sep).length := (split_len s sep h1).1.symm
  refine ⟨_, rfl, ⟨some ⟨w.heap.size, 0, none⟩, _, by rw [hn], fun _ => ⟨w.heap.size, 0, rfl, by simp, fun i x hx => ?_⟩⟩, (Below.refl _ _).alloc (Nat.le_refl _) _⟩
  rw [Nat.zero_add, cell_of_row _ _ i _ _ _ (heap_alloc_new w _)]
  rw [← hd, List.getElem?_map] at hx
  obtain ⟨y, hy, rfl⟩ := Option.map_eq_some_iff.1 hx
  rw [List.getElem?_toArray, List.getElem?_map, hy]
  show some (Value.string y) = some (Value.string (strB y.data.toList))
  rw [strB_eta]

set_option maxRecDepth 100000 in
set_option maxHeartbeats 1000000 in
theorem baseOf_any (s : List UInt8) (w : World) (hs : s.length ≤ 4294967000) (hG : Ga w) :
    Calls Tryz.prog 133 #[.string (strB s)] w fun e w' => e = .returned (bsV (baseL s)) ∧ Below w.heap.size w w' := by
  have hC : ∀ V, Below w.heap.size w V → Calls Tryz.prog 127 #[.string (strB s), .string ⟨#[32]⟩] V fun e w' => e = .returned (.tuple #[.string (strB (Lib.cut s [32]).1), .string (strB (Lib.cut s [32]).2.1), .bool (Lib.cut s [32]).2.2]) ∧ Below V.heap.size V w' := fun V hb => cut_any s [32] V (by omega) (hG.next hb)
  have hN : ∀ V, Below w.heap.size w V → Calls Tryz.prog 128 #[.string (strB (Lib.cut s [32]).2.1)] V fun e w' => e = .returned (.int .i64 (numI (Lib.cut s [32]).2.1)) ∧ Below V.heap.size V w' := fun V hb => number_any _ V (by have := (cut_len s [32]).2; omega) (hG.next hb)
  have HR := Lib.hid (show bsV (baseL s) = .agg #[.bool (decide ((Lib.cut s [32]).1 = [99, 101, 108, 108])), .int .i64 (numI (Lib.cut s [32]).2.1)] from rfl)
  have he : ((strB (Lib.cut s [32]).1).toList == [99, 101, 108, 108]) = decide ((Lib.cut s [32]).1 = [99, 101, 108, 108]) := by rw [ByteArray.toList_eq, strB_toList, Bool.eq_iff_iff]; simp
  have HC := Lib.hid hC
  have HN := Lib.hid hN
  have k0 := heap_alloc_new w (.cells #[.bool false, .int .i64 0] 24)
  have hb0 : Below w.heap.size w (w.alloc (.cells #[.bool false, .int .i64 0] 24)) := (Below.refl _ _).alloc (Nat.le_refl _) _
  clear hC hN hs hG
  generalize decide ((Lib.cut s [32]).1 = [99, 101, 108, 108]) = cb at *
  generalize numI (Lib.cut s [32]).2.1 = n at *
  generalize Lib.cut s [32] = c at *
  obtain ⟨c1, c2, c3⟩ := c
  dsimp only at *
  generalize strB c1 = s1 at *
  generalize strB c2 = s2 at *
  generalize strB s = ss at *
  go_enter Tryz.func133, Tryz.ntmps133
  go_upto_region 1 with (fail)
  generalize w.alloc (.cells #[.bool false, .int .i64 0] 24) = V at k0 hb0 ⊢
  have hVl := (Array.getElem?_eq_some_iff.1 k0).1
  have HK := Lib.hid k0
  clear k0
  go_upto_region 2 with (go_at_call 127; refine (HC.out _ hb0).mono ?_; rintro e w1 ⟨rfl, hb1⟩)
  have hb2 := hb0.trans (hb1.mono hb0.size)
  have h1 := heap_below hb1 hVl HK.out
  have hl1 := Nat.lt_of_lt_of_le hVl hb1.size
  have H1 := Lib.hid h1
  clear h1 hb1 hVl HK
  have HQ := Lib.hid (fun W (hb : Below w1.heap.size w1 W) => heap_below hb hl1 H1.out)
  go_wp2_with (go_at_call 128; refine (HN.out _ hb2).mono ?_; rintro e w3 ⟨rfl, hb3⟩; have hk := HQ.out w3 ⟨hb3.os, hb3.tape, hb3.output, hb3.size, hb3.block⟩; have q0 := cell_of_row _ _ 0 _ _ _ hk; have q1 := cell_of_row _ _ 1 _ _ _ hk; have f0 := frozen_of_row _ _ 0 _ _ hk; have f1 := frozen_of_row _ _ 1 _ _ hk; have hlk := (Array.getElem?_eq_some_iff.1 hk).1; clear hk)
  refine bodyPost_ret (v := .agg #[.bool cb, .int .i64 n]) (by simp [results, Tryz.results133, go_sem, q0, q1]) rfl ⟨by rw [HR.out], ?_⟩
  exact below2s (hb2.trans (hb3.mono hb2.size)) (Nat.le_refl _)

set_option maxRecDepth 100000 in
set_option maxHeartbeats 1000000 in
theorem listSB (v : Value) (l : List (List UInt8)) (w : World) (hv : SlS w v l) (hl : l.length ≤ 1000001) (hls : ∀ x ∈ l, x.length ≤ 1000000) (hG : Ga w) :
    Calls Tryz.prog 148 #[v, .func (.func 133) #[] #[]] w fun e w' => ∃ u, e = .returned u ∧ w'.ownsRow w.heap.size 24 2 u l.length (l.flatMap fun x => bsVals (baseL x)) ∧ Below w.heap.size w w' := by
  have hf := fun (x : List UInt8) (V : World) (hx : x ∈ l) (hb : Below w.heap.size w V) => baseOf_any x V (by have := hls x hx; omega) (hG.next hb)
  obtain ⟨A, cap, rfl, hA⟩ := hv
  obtain ⟨i0, hi, hz0, hz1, hz2⟩ := info_parts bs_info
  have Hf := Lib.hid hf
  clear hf hG hls
  go_enter Tryz.func148, Tryz.ntmps148
  go_wp2
  go_loopw [5, 7, 10] (fun u _ c wr => ∃ k : Nat, k ≤ l.length ∧ c = .int .i64 (k : Int) ∧ wr.ownsRow w.heap.size 24 2 u k ((l.take k).flatMap fun x => bsVals (baseL x)) ∧ Below w.heap.size w wr) (fun _ _ c _ => l.length - (intOf c).toNat)
  case atStart => exact ⟨0, Nat.zero_le _, rfl, World.ownsRow_nil _ _ _ _, Below.refl _ _⟩
  case round =>
    obtain ⟨k, hk, rfl, hown, hb⟩ := hrel
    obtain ⟨Ao, co, rfl⟩ := own_slice hown
    by_cases hlt : k < l.length
    · obtain ⟨b1, o1, rfl, hb1, hc1⟩ := hA (by omega)
      have p1 := hc1 k _ (List.getElem?_eq_getElem hlt)
      have p1' := (hb.cell (p := ⟨b1, o1 + k, none⟩) hb1).trans p1
      clear p1 hc1 hA
      have Hx := Lib.hid (take_flat (fun x => bsVals (baseL x)) hlt)
      have hcall := Hf.out l[k] wr (List.getElem_mem hlt) hb
      generalize l[k] = x at p1' Hx hcall
      unfold bsV at hcall
      have Hc := Lib.hid hcall
      have Hown := Lib.hid hown
      have hb1r : b1 < wr.heap.size := Nat.lt_of_lt_of_le hb1 hb.size
      clear hcall hown
      generalize hy : baseL x = y at Hx Hc
      clear hy
      generalize strB x = sx at *
      go_wp2_with (first
        | (go_at_call 133; refine Hc.out.mono ?_; rintro e w1 ⟨rfl, hb3⟩; have hown1 := own_below Hown.out hb3; have hb4 := hb.trans (hb3.mono hb.size); have hz4 := hb4.size)
        | (at_builtin; refine wpList_append_own _ rfl _ _ 62 rfl w.heap.size 24 i0 _ 2 16 Tryz.underlying62 hi hz0 hz1 hz2 rfl (by decide) _ _ _ rfl (hown1.alloc _) ⟨w1.heap.size, 0, none⟩ 1 1 [.bool y.cell, .int .i64 y.n] rfl rfl (lit_new2 _ _ _ rfl _) (fun u hu => by simp at hu; rcases hu with rfl | rfl <;> rfl) (by unfold maxLen; omega) (by omega) (by simp; omega) ?_; intro v' w2 hown' hgrow _))
      go_roundw
      case rel =>
        refine ⟨k + 1, by omega, by go_num, by rw [Hx.out]; exact hown', ?_⟩
        exact (hb4.alloc hb4.size _).grown hgrow (by simp; omega) (fun j e => (World.ownsRow.lt hown1 j e).1)
      case measure => simp [intOf]; omega
    · have hkN : k = l.length := by omega
      subst hkN
      rw [List.take_length] at hown
      go_wp2
      go_ret
      exact ⟨_, rfl, hown, hb⟩

end Go.Proofs.YtoncdnelacolaaaGreatDoor.Ar

namespace Go.Proofs.YtoncdnelacolaaaGreatDoor.Ar
open Go Go.Proofs Go.RowKit Go.Sort Lx Ps

theorem trimP_any (s t : List UInt8) (w : World) :
    Calls Tryz.prog 147 #[.string (strB s), .string (strB t)] w fun e w' => e = .returned (.string (strB (Lib.trimPrefix s t))) ∧ Below w.heap.size w w' :=
  (Tryz.strings_TrimPrefix (strB s) (strB t) w).mono fun _ _ ⟨h1, h2⟩ => ⟨h1, h2 ▸ Below.refl _ _⟩
theorem cutS_any (s t : List UInt8) (w : World) (hs : s.length ≤ 4294967000) :
    Calls Tryz.prog 129 #[.string (strB s), .string (strB t)] w fun e w' => e = .returned (.tuple #[.string (strB (Lib.trimSuffix s t)), .bool (Lib.hasSuffix s t)]) ∧ Below w.heap.size w w' :=
  (Tryz.strings_CutSuffix (strB s) (strB t) w (by rw [strB_size]; omega)).mono fun _ _ ⟨h1, h2⟩ => ⟨h1, h2 ▸ Below.refl _ _⟩
theorem trimP_len (s t : List UInt8) : (Lib.trimPrefix s t).length ≤ s.length := by
  unfold Lib.trimPrefix
  split
  · rw [List.length_drop]; omega
  · exact Nat.le_refl _
theorem trimS_len (s t : List UInt8) : (Lib.trimSuffix s t).length ≤ s.length := by
  unfold Lib.trimSuffix
  split
  · rw [List.length_take]; omega
  · exact Nat.le_refl _
theorem three_c {W : World} {b : Nat} {x0 x1 x2 : Value} {T : TypeId} (h : W.heap[b]? = some (.cells #[x0, x1, x2] T (0, 0))) :
    (W.cell? ⟨b, 0, none⟩ = some x0 ∧ W.cell? ⟨b, 1, none⟩ = some x1 ∧ W.cell? ⟨b, 2, none⟩ = some x2) ∧
    (W.frozen? ⟨b, 0, none⟩ = false ∧ W.frozen? ⟨b, 1, none⟩ = false ∧ W.frozen? ⟨b, 2, none⟩ = false) ∧ b < W.heap.size :=
  ⟨⟨cell_of_row _ _ 0 _ _ _ h, cell_of_row _ _ 1 _ _ _ h, cell_of_row _ _ 2 _ _ _ h⟩,
    ⟨frozen_of_row _ _ 0 _ _ h, frozen_of_row _ _ 1 _ _ h, frozen_of_row _ _ 2 _ _ h⟩, (Array.getElem?_eq_some_iff.1 h).1⟩
theorem below3t {B b : Nat} {W V : World} {x y z : Value} (h : Below B W V) (hb : B ≤ b) : Below B W (((V.setCell ⟨b, 0, none⟩ x).setCell ⟨b, 1, none⟩ y).setCell ⟨b, 2, none⟩ z) :=
  ((h.setCell (by exact hb) _).setCell (by exact hb) _).setCell (by exact hb) _

set_option maxRecDepth 100000 in
set_option maxHeartbeats 2000000 in
theorem typeOf_any (s : List UInt8) (w : World) (hs : s.length ≤ 1000000) (hG : Ga w) :
    Calls Tryz.prog 132 #[.string (strB s)] w fun e w' => ∃ u, e = .returned (tyV u (typeL s)) ∧ w'.ownsRow w.heap.size 24 2 u (typeL s).params.length ((typeL s).params.flatMap bsVals) ∧ Below w.heap.size w w' := by
  have HT := Lib.hid (fun V => show Calls Tryz.prog 147 #[.string (strB s), .string ⟨#[40]⟩] V _ from trimP_any s [40] V)
  have hpl := trimP_len s [40]
  have hcl := cut_len (Lib.trimPrefix s [40]) [41, 32, 45, 62, 32]
  have HC := Lib.hid (fun V (hb : Below w.heap.size w V) => show Calls Tryz.prog 127 #[.string (strB (Lib.trimPrefix s [40])), .string ⟨#[41, 32, 45, 62, 32]⟩] V _ from cut_any (Lib.trimPrefix s [40]) [41, 32, 45, 62, 32] V (by omega) (hG.next hb))
  have HB := Lib.hid (fun (x : List UInt8) (hx : x.length ≤ 1000000) V (hb : Below w.heap.size w V) => baseOf_any x V (by omega) (hG.next hb))
  have HS := Lib.hid (fun (x : List UInt8) (hx : x.length ≤ 1000000) V (hb : Below w.heap.size w V) => show Calls Tryz.prog 130 #[.string (strB x), .string ⟨#[44, 32]⟩] V _ from split_any x [44, 32] V (by omega) (by simp) (hG.next hb))
  have HL := Lib.hid (fun (x : List UInt8) (hx : x.length ≤ 1000000) v V (hv : SlS V v (Lib.split x [44, 32])) (hb : Below w.heap.size w V) => listSB v (Lib.split x [44, 32]) V hv (by have := (split_len x [44, 32] (by simp)).2; omega) (fun y hy => by have := split_part hy; omega) (hG.next hb))
  have HTL := Lib.hid (show typeL s = if (Lib.cut (Lib.trimPrefix s [40]) [41, 32, 45, 62, 32]).2.2 = true then ⟨(Lib.split (Lib.cut (Lib.trimPrefix s [40]) [41, 32, 45, 62, 32]).1 [44, 32]).map baseL, baseL (Lib.cut (Lib.trimPrefix s [40]) [41, 32, 45, 62, 32]).2.1⟩ else ⟨[], baseL s⟩ from rfl)
  have k0 := heap_alloc_new w (.cells #[.slice none 0 0, .bool false, .int .i64 0] 64)
  have hb0 : Below w.heap.size w (w.alloc (.cells #[.slice none 0 0, .bool false, .int .i64 0] 64)) := (Below.refl _ _).alloc (Nat.le_refl _) _
  clear hG
  generalize Lib.cut (Lib.trimPrefix s [40]) [41, 32, 45, 62, 32] = c at *
  obtain ⟨c1, c2, c3⟩ := c
  dsimp only at *
  have l1 : c1.length ≤ 1000000 := by omega
  have l2 : c2.length ≤ 1000000 := by omega
  have hBs := HB.out s hs
  have hB2 := HB.out c2 l2
  unfold bsV at hBs hB2
  have HBS := Lib.hid hBs
  have HB2 := Lib.hid hB2
  have HSP := Lib.hid (HS.out c1 l1)
  have HLI := Lib.hid (HL.out c1 l1)
  clear hBs hB2 hpl hcl HB HS HL l1 l2 hs
  unfold tyV
  cases c3
  · have hT : typeL s = ⟨[], baseL s⟩ := by rw [HTL.out, if_neg (by simp)]
    rw [hT]
    clear hT HTL HSP HLI HB2
    generalize baseL s = bl at *
    generalize strB (Lib.trimPrefix s [40]) = sp at *
    generalize strB c1 = s1 at *
    generalize strB c2 = s2 at *
    generalize strB s = ss at *
    go_enter Tryz.func132, Tryz.ntmps132
    go_upto_region 1 with (fail)
    generalize w.alloc (.cells #[.slice none 0 0, .bool false, .int .i64 0] 64) = V at k0 hb0 ⊢
    have hVl := (Array.getElem?_eq_some_iff.1 k0).1
    have HK := Lib.hid k0
    clear k0
    go_upto_region 3 with (first
      | (go_at_call 127; refine (HC.out _ hb1).mono ?_; rintro e w2 ⟨rfl, hq2⟩)
      | (go_at_call 147; refine (HT.out _).mono ?_; rintro e w1 ⟨rfl, hq1⟩; have hb1 := hb0.trans (hq1.mono hb0.size)))
    have hb2 := hb1.trans (hq2.mono hb1.size)
    have h2 := heap_below (hq1.trans (hq2.mono hq1.size)) hVl HK.out
    have H2 := Lib.hid h2
    have hl2 := (Array.getElem?_eq_some_iff.1 h2).1
    clear h2 hq1 hq2 hb1
    go_wp2_with (go_at_call 133; refine (HBS.out _ hb2).mono ?_; rintro e w3 ⟨rfl, hq3⟩; obtain ⟨⟨q0, q1, q2⟩, ⟨f0, f1, f2⟩, hlk⟩ := three_c (heap_below (⟨hq3.os, hq3.tape, hq3.output, hq3.size, hq3.block⟩ : Below w2.heap.size w2 w3) hl2 H2.out))
    refine bodyPost_ret (v := .agg #[.slice none 0 0, .bool bl.cell, .int .i64 bl.n]) (by simp [results, Tryz.results132, go_sem, q0, q1, q2]) rfl ⟨_, rfl, World.ownsRow_nil _ _ _ _, ?_⟩
    exact below3t (hb2.trans (hq3.mono hb2.size)) (Nat.le_refl _)
  · have hT : typeL s = ⟨(Lib.split c1 [44, 32]).map baseL, baseL c2⟩ := by rw [HTL.out, if_pos rfl]
    rw [hT]
    dsimp only
    rw [List.length_map, List.flatMap_map]
    clear hT HTL HBS
    generalize baseL c2 = bl at *
    generalize Lib.split c1 [44, 32] = L at *
    generalize strB (Lib.trimPrefix s [40]) = sp at *
    generalize strB c1 = s1 at *
    generalize strB c2 = s2 at *
    generalize strB s = ss at *
    go_enter Tryz.func132, Tryz.ntmps132
    go_upto_region 1 with (fail)
    generalize w.alloc (.cells #[.slice none 0 0, .bool false, .int .i64 0] 64) = V at k0 hb0 ⊢
    have hVl := (Array.getElem?_eq_some_iff.1 k0).1
    have HK := Lib.hid k0
    clear k0
    go_upto_region 4 with (first
      | (go_at_call 127; refine (HC.out _ hb1).mono ?_; rintro e w2 ⟨rfl, hq2⟩)
      | (go_at_call 147; refine (HT.out _).mono ?_; rintro e w1 ⟨rfl, hq1⟩; have hb1 := hb0.trans (hq1.mono hb0.size)))
    have hb2 := hb1.trans (hq2.mono hb1.size)
    have h2 := heap_below (hq1.trans (hq2.mono hq1.size)) hVl HK.out
    have H2 := Lib.hid h2
    have hl2 := (Array.getElem?_eq_some_iff.1 h2).1
    clear h2 hq1 hq2 hb1
    go_wp2_with (first
      | (go_at_call 130; refine (HSP.out _ hb2).mono ?_; rintro e w3 ⟨v3, rfl, hsl, hq3⟩; have hb3 := hb2.trans (hq3.mono hb2.size); have hx3 : Below w2.heap.size w2 w3 := ⟨hq3.os, hq3.tape, hq3.output, hq3.size, hq3.block⟩)
      | (go_at_call 148; refine (HLI.out _ _ hsl hb3).mono ?_; rintro e w4 ⟨v4, rfl, hown, hq4⟩; obtain ⟨A4, c4, rfl⟩ := own_slice hown; have hb4 := hb3.trans (hq4.mono hb3.size); have hx4 : Below w2.heap.size w2 w4 := hx3.trans (hq4.mono hx3.size))
      | (go_at_call 133; refine (HB2.out _ hb4).mono ?_; rintro e w5 ⟨rfl, hq5⟩; have hx5 : Below w2.heap.size w2 w5 := hx4.trans (hq5.mono hx4.size); obtain ⟨⟨q0, q1, q2⟩, ⟨f0, f1, f2⟩, hlk⟩ := three_c (heap_below hx5 hl2 H2.out)))
    have hb5 := hb4.trans (hq5.mono hb4.size)
    have hw3 : w.heap.size < w3.heap.size := Nat.lt_of_lt_of_le hl2 hx3.size
    have hown5 := own_below hown hq5
    refine bodyPost_ret (v := .agg #[.slice A4 L.length c4, .bool bl.cell, .int .i64 bl.n]) (by simp [results, Tryz.results132, go_sem, q0, q1, q2]) rfl ⟨_, rfl, ?_, ?_⟩
    · exact World.ownsRow.mono (ownsRow_setCell_below (ownsRow_setCell_below (ownsRow_setCell_below hown5 hw3 _) hw3 _) hw3 _) (Nat.le_of_lt hw3)
    · exact below3t hb5 (Nat.le_refl _)

end Go.Proofs.YtoncdnelacolaaaGreatDoor.Ar

namespace Go.Proofs.YtoncdnelacolaaaGreatDoor.Ar
open Go Go.Proofs Go.RowKit Go.Sort Lx Ps

set_option maxRecDepth 100000 in
set_option maxHeartbeats 1000000 in
theorem listST (v : Value) (l : List (List UInt8)) (w : World) (hv : SlS w v l) (hl : l.length ≤ 1000001) (hls : ∀ x ∈ l, x.length ≤ 1000000) (hG : Ga w) :
    Calls Tryz.prog 131 #[v, .func (.func 132) #[] #[]] w fun e w' => ∃ u ps, e = .returned u ∧ w'.ownsRow w.heap.size 64 3 u (l.map typeL).length (tyRow ps (l.map typeL)) ∧ Cps w' w.heap.size ps (l.map typeL) ∧ Below w.heap.size w w' := by
  have hf := fun (x : List UInt8) (V : World) (hx : x ∈ l) (hb : Below w.heap.size w V) => typeOf_any x V (hls x hx) (hG.next hb)
  obtain ⟨A, cap, rfl, hA⟩ := hv
  obtain ⟨i0, hi, hz0, hz1, hz2⟩ := info_parts ty_info
  have Hf := Lib.hid hf
  clear hf hG hls
  rw [List.length_map]
  go_enter Tryz.func131, Tryz.ntmps131
  go_wp2
  go_loopw [5, 7, 10] (fun u _ c wr => ∃ (k : Nat) (ps : List Value), k ≤ l.length ∧ c = .int .i64 (k : Int) ∧ wr.ownsRow w.heap.size 64 3 u k (tyRow ps ((l.take k).map typeL)) ∧ Cps wr w.heap.size ps ((l.take k).map typeL) ∧ Below w.heap.size w wr) (fun _ _ c _ => l.length - (intOf c).toNat)
  case atStart => exact ⟨0, [], Nat.zero_le _, rfl, World.ownsRow_nil _ _ _ _, ⟨rfl, fun i p t h _ => by simp at h⟩, Below.refl _ _⟩
  case round =>
    obtain ⟨k, ps, hk, rfl, hown, hcp, hb⟩ := hrel
    obtain ⟨Ao, co, rfl⟩ := own_slice hown
    by_cases hlt : k < l.length
    · obtain ⟨b1, o1, rfl, hb1, hc1⟩ := hA (by omega)
      have p1 := hc1 k _ (List.getElem?_eq_getElem hlt)
      have p1' := (hb.cell (p := ⟨b1, o1 + k, none⟩) hb1).trans p1
      have htk : (l.take (k + 1)).map typeL = (l.take k).map typeL ++ [typeL l[k]] := by rw [List.take_succ_eq_append_getElem hlt, List.map_append]; rfl
      have hcall := Hf.out l[k] wr (List.getElem_mem hlt) hb
      clear p1 hc1 hA
      generalize l[k] = y at p1' htk hcall
      generalize typeL y = x at htk hcall
      generalize strB y = sy at *
      have HT := Lib.hid htk
      unfold tyV at hcall
      have Hc := Lib.hid hcall
      have Hown := Lib.hid hown
      have Hcp := Lib.hid hcp
      have hb1r : b1 < wr.heap.size := Nat.lt_of_lt_of_le hb1 hb.size
      clear hcall hown htk hcp
      go_wp2_with (first
        | (go_at_call 132; refine Hc.out.mono ?_; rintro e w1 ⟨u, rfl, hq, hb3⟩; obtain ⟨A3, c3, rfl⟩ := own_slice hq; have hown1 := own_below Hown.out hb3; have hb4 := hb.trans (hb3.mono hb.size); have hz4 := hb4.size)
        | (at_builtin; refine wpList_append_own _ rfl _ _ 22 rfl w.heap.size 64 i0 _ 3 40 Tryz.underlying22 hi hz0 hz1 hz2 rfl (by decide) _ _ _ rfl (hown1.alloc _) ⟨w1.heap.size, 0, none⟩ 1 1 [.slice A3 x.params.length c3, .bool x.result.cell, .int .i64 x.result.n] rfl rfl (lit_new2 _ _ _ rfl _) (fun u hu => by simp at hu; rcases hu with rfl | rfl | rfl <;> rfl) (by unfold maxLen; omega) (by omega) (by simp; omega) ?_; intro v' w2 hown' hgrow _))
      go_roundw
      case rel =>
        have hX : Below w1.heap.size w1 (w1.alloc (.cells #[.slice A3 x.params.length c3, .bool x.result.cell, .int .i64 x.result.n] 64)) := (Below.refl _ _).alloc (Nat.le_refl _) _
        have hkeep : ∀ (p : Value) (n : Nat) (xs : List Value), (w1.alloc (.cells #[.slice A3 x.params.length c3, .bool x.result.cell, .int .i64 x.result.n] 64)).ownsRow w.heap.size 24 2 p n xs → w2.ownsRow w.heap.size 24 2 p n xs := fun p n xs hp => hp.kept hgrow (own_apart hp (hown1.alloc _) (by decide))
        refine ⟨k + 1, ps ++ [.slice A3 x.params.length c3], by omega, by go_num, by rw [HT.out, tyRow_push _ _ _ _ Hcp.out.len]; exact hown', ?_, ?_⟩
        · rw [HT.out]
          refine Cps.push (Hcp.out.map fun p n xs hp => hkeep p n xs (own_below (own_below hp hb3) hX)) (hkeep _ _ _ (own_below (World.ownsRow.mono hq hb.size) hX))
        · exact (hb4.alloc hb4.size _).grown hgrow (by simp; omega) (fun j e => (World.ownsRow.lt hown1 j e).1)
      case measure => simp [intOf]; omega
    · have hkN : k = l.length := by omega
      subst hkN
      rw [List.take_length] at hown hcp
      go_wp2
      go_ret
      exact ⟨_, ps, rfl, hown, hcp, hb⟩

theorem split_at (s sep : List UInt8) (w : World) (hs : s.length ≤ 4294967000) (h1 : 1 ≤ sep.length) (hG : Ga w) :
    Calls Tryz.prog 130 #[.string (strB s), .string (strB sep)] w fun e w' => ∃ B, e = .returned (.slice (some ⟨B, 0, none⟩) (Lib.split s sep).length (Lib.split s sep).length) ∧ B < w'.heap.size ∧ w.heap.size ≤ B ∧ (∀ (i : Nat) (x : List UInt8), (Lib.split s sep)[i]? = some x → w'.cell? ⟨B, i, none⟩ = some (.string (strB x))) ∧ Below w.heap.size w w' := by
  obtain ⟨m, hm⟩ := hG.mx
  refine (Tryz.strings_Split (strB s) (strB sep) m w (by rw [strB_size]; omega) hm (by rw [strB_size]; exact h1)).mono ?_
  rintro e w' ⟨rfl, rfl⟩
  have hd : (Lib.splitB (strB sep) 0 (Lib.countB (strB s) (strB sep)) (strB s)).map (·.data.toList) = Lib.split s sep := Lib.splitB_data _ _ _ _
  have hn : Lib.countB (strB s) (strB sep) + 1 = (Lib.split s sep).length := (split_len s sep h1).1.symm
  refine ⟨w.heap.size, by rw [hn], by simp, Nat.le_refl _, fun i x hx => ?_, (Below.refl _ _).alloc (Nat.le_refl _) _⟩
  rw [cell_of_row _ _ i _ _ _ (heap_alloc_new w _)]
  rw [← hd, List.getElem?_map] at hx
  obtain ⟨y, hy, rfl⟩ := Option.map_eq_some_iff.1 hx
  rw [List.getElem?_toArray, List.getElem?_map, hy]
  show some (Value.string y) = some (Value.string (strB y.data.toList))
  rw [strB_eta]

end Go.Proofs.YtoncdnelacolaaaGreatDoor.Ar

namespace Go.Proofs.YtoncdnelacolaaaGreatDoor.Ar
open Go Go.Proofs Go.RowKit Go.Sort Lx Ps

theorem four_now {W : World} {b : Nat} {x0 x1 x2 x3 y0 y1 y2 y3 : Value} {t : TypeId} (h : W.heap[b]? = some (.cells #[x0, x1, x2, x3] t (0, 0))) :
    (((((W.setCell ⟨b, 0, none⟩ y0).setCell ⟨b, 1, none⟩ y1).setCell ⟨b, 2, none⟩ y2).setCell ⟨b, 3, none⟩ y3)).heap[b]? = some (.cells #[y0, y1, y2, y3] t (0, 0)) := by
  have h1 := heap_setCell_same W b 0 _ _ y0 h
  have h2 := heap_setCell_same _ b 1 _ _ y1 h1
  have h3 := heap_setCell_same _ b 2 _ _ y2 h2
  have h4 := heap_setCell_same _ b 3 _ _ y3 h3
  exact h4

set_option maxRecDepth 100000 in
set_option maxHeartbeats 4000000 in
theorem arenaOf_own (s : List UInt8) (w : World) (hs : s.length ≤ 1000000) (hG : Ga w) :
    Calls Tryz.prog 101 #[.string (strB s)] w fun e w' => ∃ v ps, e = .returned (arV v (arenaL s)) ∧ w'.ownsRow w.heap.size 64 3 v (arenaL s).ids.length (tyRow ps (arenaL s).ids) ∧ Cps w' w.heap.size ps (arenaL s).ids ∧ ((arenaL s).ids.length ≤ 140737488355328 ∧ ∀ x ∈ (arenaL s).ids, x.params.length ≤ 140737488355328) ∧ Below w.heap.size w w' := by
  have htl := trimS_len s [59, 32, 106, 117, 109, 112, 115]
  have HT := Lib.hid (fun V => show Calls Tryz.prog 129 #[.string (strB s), .string ⟨#[59, 32, 106, 117, 109, 112, 115]⟩] V _ from cutS_any s [59, 32, 106, 117, 109, 112, 115] V (by omega))
  have HS := Lib.hid (fun V (hb : Below w.heap.size w V) => show Calls Tryz.prog 130 #[.string (strB (Lib.trimSuffix s [59, 32, 106, 117, 109, 112, 115])), .string ⟨#[59, 32]⟩] V _ from split_at (Lib.trimSuffix s [59, 32, 106, 117, 109, 112, 115]) [59, 32] V (by omega) (by simp) (hG.next hb))
  have hsl := split_len (Lib.trimSuffix s [59, 32, 106, 117, 109, 112, 115]) [59, 32] (by simp)
  have hPe : partsL s = Lib.split (Lib.trimSuffix s [59, 32, 106, 117, 109, 112, 115]) [59, 32] := rfl
  have hpt : ∀ x ∈ partsL s, x.length ≤ 1000000 := fun x hx => by have := split_part (hPe ▸ hx); omega
  have hpl : (partsL s).length ≤ 1000001 ∧ 1 ≤ (partsL s).length := by rw [hPe]; omega
  have hAr : arenaL s = ⟨((partsL s).drop 1).map typeL, baseL ((partsL s).getD 0 []), Lib.hasSuffix s [59, 32, 106, 117, 109, 112, 115]⟩ := rfl
  have htyl : ∀ x : List UInt8, x.length ≤ 1000000 → (typeL x).params.length ≤ 1000001 := fun x hx => by
    unfold typeL
    split
    · show (List.map baseL _).length ≤ _
      rw [List.length_map]
      have h1 := (split_len (Lib.cut (Lib.trimPrefix x [40]) [41, 32, 45, 62, 32]).1 [44, 32] (by simp)).2
      have h2 := (cut_len (Lib.trimPrefix x [40]) [41, 32, 45, 62, 32]).1
      have h3 := trimP_len x [40]
      omega
    · exact Nat.zero_le _
  rw [← hPe] at HS
  have HL := Lib.hid (fun (l : List (List UInt8)) v V (hv : SlS V v l) (h1 : l.length ≤ 1000001) (h2 : ∀ x ∈ l, x.length ≤ 1000000) (hb : Below w.heap.size w V) => listST v l V hv h1 h2 (hG.next hb))
  have HB := Lib.hid (fun (x : List UInt8) (hx : x.length ≤ 1000000) V (hb : Below w.heap.size w V) => baseOf_any x V (by omega) (hG.next hb))
  have k0 := heap_alloc_new w (.cells #[.slice none 0 0, .bool false, .int .i64 0, .bool false] 26)
  have hb0 : Below w.heap.size w (w.alloc (.cells #[.slice none 0 0, .bool false, .int .i64 0, .bool false] 26)) := (Below.refl _ _).alloc (Nat.le_refl _) _
  rw [hAr]
  clear hAr hPe hsl htl hs hG
  generalize Lib.hasSuffix s [59, 32, 106, 117, 109, 112, 115] = jj at *
  generalize Lib.trimSuffix s [59, 32, 106, 117, 109, 112, 115] = ts at *
  generalize partsL s = P at *
  cases P with
  | nil => exact absurd hpl.2 (by simp)
  | cons p0 P =>
    simp only [List.drop_succ_cons, List.drop_zero, List.getD_cons_zero, List.length_cons] at *
    have hB0 := HB.out p0 (hpt p0 List.mem_cons_self)
    have hLP := HL.out P
    have hPp : ∀ x ∈ P, x.length ≤ 1000000 := fun x hx => hpt x (List.mem_cons_of_mem _ hx)
    unfold bsV at hB0
    have HB0 := Lib.hid hB0
    have HLP := Lib.hid (fun v V hv hb => hLP v V hv (by omega) hPp hb)
    have HTY := Lib.hid (fun x hx => htyl x (hPp x hx))
    clear hB0 hLP HB HL hpt htyl hPp
    generalize baseL p0 = bl at *
    unfold arV
    dsimp only
    go_enter Tryz.func101, Tryz.ntmps101
    go_upto_region 1 with (fail)
    generalize w.alloc (.cells #[.slice none 0 0, .bool false, .int .i64 0, .bool false] 26) = V at k0 hb0 ⊢
    have hVl := (Array.getElem?_eq_some_iff.1 k0).1
    have HK := Lib.hid k0
    clear k0
    go_upto_region 3 with (first
      | (go_at_call 130; refine (HS.out _ hb1).mono ?_; rintro e w2 ⟨B, rfl, hBl, hBw0, hcl, hq2⟩)
      | (go_at_call 129; refine (HT.out _).mono ?_; rintro e w1 ⟨rfl, hq1⟩; have hb1 := hb0.trans (hq1.mono hb0.size)))
    have hb2 := hb1.trans (hq2.mono hb1.size)
    have h2 := heap_below (hq1.trans (hq2.mono hq1.size)) hVl HK.out
    have H2 := Lib.hid h2
    have hl2 := (Array.getElem?_eq_some_iff.1 h2).1
    have c0 := hcl 0 p0 rfl
    have HCL := Lib.hid hcl
    have hBw1 : ¬ B = w.heap.size := by have := hq1.size; omega
    clear h2 hq1 hq2 hb1 hcl HK hBw0
    have b1 : (1 : Int) ≤ (P.length : Int) + 1 := by omega
    have hBw := hBw1
    clear hBw1
    by_cases hP : P = []
    · subst hP
      have hsl2 : SlS w2.drew (.slice (some ⟨B, 0, none⟩) 0 0) [] := ⟨_, _, rfl, fun h => absurd h (by simp)⟩
      refine wp_region_chain (fun w' => w'.cell? ⟨B, 0, none⟩ = some (.string (strB p0))) [(true, 0), (true, 1), (true, 3), (true, 4), (true, 5), (true, 7), (false, 2), (false, 6), (true, 8), (false, 9)] (by kernel_rfl) (by kernel_rfl) (by kernel_rfl) (by kernel_rfl) (by intro d v c a w h; cases d <;> exact h) c0 ?_
      simp only [chainOps, List.filterMap_cons, List.filterMap_nil, List.getElem?_toArray, List.getElem?_cons_zero, List.getElem?_cons_succ, Option.map_some]
      repeat (first
        | (refine chain_skip (by rfl) ?_
           try simp only [Act.put, List.setIfInBounds_toArray, List.set_cons_zero, List.set_cons_succ])
        | (apply chain_take (by rfl)
           · (intro w' hSw; (try dsimp only at hSw); go_simp; try with_reducible rfl)
           try simp only [Act.put, List.setIfInBounds_toArray, List.set_cons_zero, List.set_cons_succ]))
      refine chain_act (fun KK hKK => ?_)
      go_simp
      go_at_call 131; refine (HLP.out _ _ hsl2 hb2.drew).mono ?_; rintro e w3 ⟨u, ps, rfl, hown, hcp, hq3⟩
      have hx3 : Below w2.heap.size w2 w3 := ⟨hq3.os, hq3.tape, hq3.output, hq3.size, hq3.block⟩
      obtain ⟨A3, c3, rfl⟩ := own_slice hown
      refine hKK.out _ _ ((hx3.cell (p := ⟨B, 0, none⟩) hBl).trans c0) ?_
      clear hKK KK
      try simp only [Act.put, List.setIfInBounds_toArray, List.set_cons_zero, List.set_cons_succ]
      refine chain_act (fun KK hKK => ?_)
      go_simp
      go_at_call 133; refine (HB0.out _ (hb2.trans (hx3.mono hb2.size))).mono ?_; rintro e w4 ⟨rfl, hq4⟩
      have hx4 : Below w2.heap.size w2 w4 := hx3.trans (hq4.mono hx3.size)
      refine hKK.out _ _ ((hx4.cell (p := ⟨B, 0, none⟩) hBl).trans c0) ?_
      clear hKK KK
      try simp only [Act.put, List.setIfInBounds_toArray, List.set_cons_zero, List.set_cons_succ]
      repeat (first
        | (refine chain_skip (by rfl) ?_
           try simp only [Act.put, List.setIfInBounds_toArray, List.set_cons_zero, List.set_cons_succ])
        | (apply chain_take (by rfl)
           · (intro w' hSw; (try dsimp only at hSw); go_simp; try with_reducible rfl)
           try simp only [Act.put, List.setIfInBounds_toArray, List.set_cons_zero, List.set_cons_succ]))
      have h4 := heap_below hx4 hl2 H2.out
      obtain ⟨⟨q0, q1, q2, q3⟩, ⟨f0, f1, f2, f3⟩, hl4⟩ := four_c h4
      have hown4 := own_below hown hq4
      have hcp4 := hcp.map fun p n xs hp => own_below hp hq4
      have hb4 := hb2.trans (hx4.mono hb2.size)
      have hw3 : w.heap.size < w2.heap.size := hl2
      have hwB : ¬ w.heap.size = B := fun e => hBw e.symm
      have hcB := (hx4.cell (p := ⟨B, 0, none⟩) hBl).trans c0
      have hk : ∀ (p : Value) (n size : Nat) (T : TypeId) (xs : List Value), w4.ownsRow w2.heap.size T size p n xs → (((((w4.setCell ⟨w.heap.size, 0, none⟩ (.slice A3 0 c3)).setCell ⟨w.heap.size, 1, none⟩ (.bool bl.cell)).setCell ⟨w.heap.size, 2, none⟩ (.int .i64 bl.n)).setCell ⟨w.heap.size, 3, none⟩ (.bool jj))).ownsRow w2.heap.size T size p n xs := fun p n size T xs h => own4s h hw3
      have hin : (((((w4.setCell ⟨w.heap.size, 0, none⟩ (.slice A3 0 c3)).setCell ⟨w.heap.size, 1, none⟩ (.bool bl.cell)).setCell ⟨w.heap.size, 2, none⟩ (.int .i64 bl.n)).setCell ⟨w.heap.size, 3, none⟩ (.bool jj))).ownsRow w.heap.size 64 3 (.slice A3 (List.map typeL ([] : List (List UInt8))).length c3) (List.map typeL ([] : List (List UInt8))).length (tyRow ps (List.map typeL ([] : List (List UInt8)))) ∧ Cps (((((w4.setCell ⟨w.heap.size, 0, none⟩ (.slice A3 0 c3)).setCell ⟨w.heap.size, 1, none⟩ (.bool bl.cell)).setCell ⟨w.heap.size, 2, none⟩ (.int .i64 bl.n)).setCell ⟨w.heap.size, 3, none⟩ (.bool jj))) w.heap.size ps (List.map typeL ([] : List (List UInt8))) ∧ (List.map typeL ([] : List (List UInt8))).length ≤ 140737488355328 ∧ ∀ x ∈ List.map typeL ([] : List (List UInt8)), x.params.length ≤ 140737488355328 := by
        refine ⟨World.ownsRow.mono (hk _ _ _ _ _ hown4) (Nat.le_of_lt hw3), hcp4.map' fun p n xs h => World.ownsRow.mono (hk _ _ _ _ _ h) (Nat.le_of_lt hw3), ?_, ?_⟩
        · show (List.map typeL ([] : List (List UInt8))).length ≤ _
          rw [List.length_map]; simp
        · intro x hx
          obtain ⟨y, hy, rfl⟩ := List.mem_map.1 hx
          have := HTY.out y hy
          omega
      have hbW : Below w.heap.size w ((((w4.setCell ⟨w.heap.size, 0, none⟩ (.slice A3 0 c3)).setCell ⟨w.heap.size, 1, none⟩ (.bool bl.cell)).setCell ⟨w.heap.size, 2, none⟩ (.int .i64 bl.n)).setCell ⟨w.heap.size, 3, none⟩ (.bool jj)) := below4s hb4 (Nat.le_refl _)
      have hrow : ((((w4.setCell ⟨w.heap.size, 0, none⟩ (.slice A3 0 c3)).setCell ⟨w.heap.size, 1, none⟩ (.bool bl.cell)).setCell ⟨w.heap.size, 2, none⟩ (.int .i64 bl.n)).setCell ⟨w.heap.size, 3, none⟩ (.bool jj)).heap[w.heap.size]? = _ := four_now h4
      have hcW : ((((w4.setCell ⟨w.heap.size, 0, none⟩ (.slice A3 0 c3)).setCell ⟨w.heap.size, 1, none⟩ (.bool bl.cell)).setCell ⟨w.heap.size, 2, none⟩ (.int .i64 bl.n)).setCell ⟨w.heap.size, 3, none⟩ (.bool jj)).cell? ⟨B, 0, none⟩ = some (.string (strB p0)) := by
        rw [← hcB]
        simp [World.cell?_setCell_far, hwB]
      have HIN9 := Lib.hid hin
      have HBW9 := Lib.hid hbW
      have HROW9 := Lib.hid hrow
      have HCW9 := Lib.hid hcW
      clear hk hown hown4 hcp hcp4 hb4 h4 hcB hl4 hq4 hx4 hx3 hq3 hin hbW hrow hcW hwB hw3 hb2 hl2
      refine chain_act (fun KK hKK => ?_)
      go_simp
      refine hKK.out _ _ HCW9.out ?_
      clear hKK KK HCW9 q0 q1 q2 q3 f0 f1 f2 f3
      try simp only [Act.put, List.setIfInBounds_toArray, List.set_cons_zero, List.set_cons_succ]
      refine chain_nil ?_
      skip
      generalize ((((w4.setCell ⟨w.heap.size, 0, none⟩ (.slice A3 0 c3)).setCell ⟨w.heap.size, 1, none⟩ (.bool bl.cell)).setCell ⟨w.heap.size, 2, none⟩ (.int .i64 bl.n)).setCell ⟨w.heap.size, 3, none⟩ (.bool jj)) = Z at *
      go_wp2
      have hin9 := HIN9.out
      exact ret_row (by rfl) rfl HROW9.out Tryz.underlying26 rfl (by kernel_rfl) rfl ⟨_, ps, rfl, hin9.1, hin9.2.1, hin9.2.2, HBW9.out⟩
    · have hP1 : ¬ P.length + 1 = 1 := by
        intro e
        exact hP (List.length_eq_zero_iff.1 (by omega))
      have hsl2 : SlS w2.drew (.slice (some ⟨B, 1, none⟩) P.length P.length) P := ⟨_, _, rfl, fun _ => ⟨B, 1, rfl, hBl, fun i x hx => by rw [Nat.add_comm]; exact HCL.out (i + 1) x hx⟩⟩
      refine wp_region_chain (fun w' => w'.cell? ⟨B, 0, none⟩ = some (.string (strB p0))) [(true, 0), (true, 1), (true, 3), (true, 4), (true, 5), (true, 7), (false, 2), (false, 6), (true, 8), (false, 9)] (by kernel_rfl) (by kernel_rfl) (by kernel_rfl) (by kernel_rfl) (by intro d v c a w h; cases d <;> exact h) c0 ?_
      simp only [chainOps, List.filterMap_cons, List.filterMap_nil, List.getElem?_toArray, List.getElem?_cons_zero, List.getElem?_cons_succ, Option.map_some]
      repeat (first
        | (refine chain_skip (by rfl) ?_
           try simp only [Act.put, List.setIfInBounds_toArray, List.set_cons_zero, List.set_cons_succ])
        | (apply chain_take (by rfl)
           · (intro w' hSw; (try dsimp only at hSw); go_simp; try with_reducible rfl)
           try simp only [Act.put, List.setIfInBounds_toArray, List.set_cons_zero, List.set_cons_succ]))
      refine chain_act (fun KK hKK => ?_)
      go_simp
      go_at_call 131; refine (HLP.out _ _ hsl2 hb2.drew).mono ?_; rintro e w3 ⟨u, ps, rfl, hown, hcp, hq3⟩
      have hx3 : Below w2.heap.size w2 w3 := ⟨hq3.os, hq3.tape, hq3.output, hq3.size, hq3.block⟩
      obtain ⟨A3, c3, rfl⟩ := own_slice hown
      refine hKK.out _ _ ((hx3.cell (p := ⟨B, 0, none⟩) hBl).trans c0) ?_
      clear hKK KK
      try simp only [Act.put, List.setIfInBounds_toArray, List.set_cons_zero, List.set_cons_succ]
      refine chain_act (fun KK hKK => ?_)
      go_simp
      go_at_call 133; refine (HB0.out _ (hb2.trans (hx3.mono hb2.size))).mono ?_; rintro e w4 ⟨rfl, hq4⟩
      have hx4 : Below w2.heap.size w2 w4 := hx3.trans (hq4.mono hx3.size)
      refine hKK.out _ _ ((hx4.cell (p := ⟨B, 0, none⟩) hBl).trans c0) ?_
      clear hKK KK
      try simp only [Act.put, List.setIfInBounds_toArray, List.set_cons_zero, List.set_cons_succ]
      repeat (first
        | (refine chain_skip (by rfl) ?_
           try simp only [Act.put, List.setIfInBounds_toArray, List.set_cons_zero, List.set_cons_succ])
        | (apply chain_take (by rfl)
           · (intro w' hSw; (try dsimp only at hSw); go_simp; try with_reducible rfl)
           try simp only [Act.put, List.setIfInBounds_toArray, List.set_cons_zero, List.set_cons_succ]))
      have h4 := heap_below hx4 hl2 H2.out
      obtain ⟨⟨q0, q1, q2, q3⟩, ⟨f0, f1, f2, f3⟩, hl4⟩ := four_c h4
      have hown4 := own_below hown hq4
      have hcp4 := hcp.map fun p n xs hp => own_below hp hq4
      have hb4 := hb2.trans (hx4.mono hb2.size)
      have hw3 : w.heap.size < w2.heap.size := hl2
      have hwB : ¬ w.heap.size = B := fun e => hBw e.symm
      have hcB := (hx4.cell (p := ⟨B, 0, none⟩) hBl).trans c0
      have hk : ∀ (p : Value) (n size : Nat) (T : TypeId) (xs : List Value), w4.ownsRow w2.heap.size T size p n xs → (((((w4.setCell ⟨w.heap.size, 0, none⟩ (.slice A3 P.length c3)).setCell ⟨w.heap.size, 1, none⟩ (.bool bl.cell)).setCell ⟨w.heap.size, 2, none⟩ (.int .i64 bl.n)).setCell ⟨w.heap.size, 3, none⟩ (.bool jj))).ownsRow w2.heap.size T size p n xs := fun p n size T xs h => own4s h hw3
      have hin : (((((w4.setCell ⟨w.heap.size, 0, none⟩ (.slice A3 P.length c3)).setCell ⟨w.heap.size, 1, none⟩ (.bool bl.cell)).setCell ⟨w.heap.size, 2, none⟩ (.int .i64 bl.n)).setCell ⟨w.heap.size, 3, none⟩ (.bool jj))).ownsRow w.heap.size 64 3 (.slice A3 (List.map typeL P).length c3) (List.map typeL P).length (tyRow ps (List.map typeL P)) ∧ Cps (((((w4.setCell ⟨w.heap.size, 0, none⟩ (.slice A3 P.length c3)).setCell ⟨w.heap.size, 1, none⟩ (.bool bl.cell)).setCell ⟨w.heap.size, 2, none⟩ (.int .i64 bl.n)).setCell ⟨w.heap.size, 3, none⟩ (.bool jj))) w.heap.size ps (List.map typeL P) ∧ (List.map typeL P).length ≤ 140737488355328 ∧ ∀ x ∈ List.map typeL P, x.params.length ≤ 140737488355328 := by
        refine ⟨World.ownsRow.mono (hk _ _ _ _ _ hown4) (Nat.le_of_lt hw3), hcp4.map' fun p n xs h => World.ownsRow.mono (hk _ _ _ _ _ h) (Nat.le_of_lt hw3), ?_, ?_⟩
        · rw [List.length_map]; omega
        · intro x hx
          obtain ⟨y, hy, rfl⟩ := List.mem_map.1 hx
          have := HTY.out y hy
          omega
      have hbW : Below w.heap.size w ((((w4.setCell ⟨w.heap.size, 0, none⟩ (.slice A3 P.length c3)).setCell ⟨w.heap.size, 1, none⟩ (.bool bl.cell)).setCell ⟨w.heap.size, 2, none⟩ (.int .i64 bl.n)).setCell ⟨w.heap.size, 3, none⟩ (.bool jj)) := below4s hb4 (Nat.le_refl _)
      have hrow : ((((w4.setCell ⟨w.heap.size, 0, none⟩ (.slice A3 P.length c3)).setCell ⟨w.heap.size, 1, none⟩ (.bool bl.cell)).setCell ⟨w.heap.size, 2, none⟩ (.int .i64 bl.n)).setCell ⟨w.heap.size, 3, none⟩ (.bool jj)).heap[w.heap.size]? = _ := four_now h4
      have hcW : ((((w4.setCell ⟨w.heap.size, 0, none⟩ (.slice A3 P.length c3)).setCell ⟨w.heap.size, 1, none⟩ (.bool bl.cell)).setCell ⟨w.heap.size, 2, none⟩ (.int .i64 bl.n)).setCell ⟨w.heap.size, 3, none⟩ (.bool jj)).cell? ⟨B, 0, none⟩ = some (.string (strB p0)) := by
        rw [← hcB]
        simp [World.cell?_setCell_far, hwB]
      have HIN9 := Lib.hid hin
      have HBW9 := Lib.hid hbW
      have HROW9 := Lib.hid hrow
      have HCW9 := Lib.hid hcW
      clear hk hown hown4 hcp hcp4 hb4 h4 hcB hl4 hq4 hx4 hx3 hq3 hin hbW hrow hcW hwB hw3 hb2 hl2
      refine chain_act (fun KK hKK => ?_)
      go_simp
      refine hKK.out _ _ HCW9.out ?_
      clear hKK KK HCW9 q0 q1 q2 q3 f0 f1 f2 f3
      try simp only [Act.put, List.setIfInBounds_toArray, List.set_cons_zero, List.set_cons_succ]
      refine chain_nil ?_
      skip
      generalize ((((w4.setCell ⟨w.heap.size, 0, none⟩ (.slice A3 P.length c3)).setCell ⟨w.heap.size, 1, none⟩ (.bool bl.cell)).setCell ⟨w.heap.size, 2, none⟩ (.int .i64 bl.n)).setCell ⟨w.heap.size, 3, none⟩ (.bool jj)) = Z at *
      go_wp2
      have hin9 := HIN9.out
      exact ret_row (by rfl) rfl HROW9.out Tryz.underlying26 rfl (by kernel_rfl) rfl ⟨_, ps, rfl, (by have h9 := hin9.1; simp only [List.length_map] at h9 ⊢; exact h9), hin9.2.1, hin9.2.2, HBW9.out⟩

theorem arenaOf_any (s : List UInt8) (w : World) (hs : s.length ≤ 1000000) (hG : Ga w) :
    Calls Tryz.prog 101 #[.string (strB s)] w fun e w' => ∃ v, e = .returned (arV v (arenaL s)) ∧ ArIn w' v (arenaL s) ∧ Below w.heap.size w w' :=
  (arenaOf_own s w hs hG).mono fun _ _ ⟨v, _, h1, h2, h3, h4, h5⟩ => ⟨v, h1, ⟨SlT.of_rows h2 h3, h4.1, h4.2⟩, h5⟩

end Go.Proofs.YtoncdnelacolaaaGreatDoor.Ar

namespace Go.Proofs.YtoncdnelacolaaaGreatDoor.Ar
open Go Go.Proofs Go.RowKit Go.Sort Lx Ps

def zA : Ar := ⟨[], ⟨false, 0⟩, false⟩
/-- What Read returns. -/
def readP (s : List UInt8) : Ar × Nat := if checkE (arenaL s) = 0 ∧ arenaT (arenaL s) = s then (arenaL s, 0) else (zA, 4)
theorem zA_in (W : World) : ArIn W (.slice none 0 0) zA := ⟨⟨none, 0, rfl, fun h => absurd h (by simp [zA])⟩, by simp [zA], fun x hx => by cases hx⟩

set_option maxRecDepth 100000 in
set_option maxHeartbeats 4000000 in
theorem read_any (s : List UInt8) (w : World) (hs : s.length ≤ 1000000) (hG : Ga w) :
    Calls Tryz.prog 45 #[.string (strB s)] w fun e w' => ∃ v, e = .returned (.tuple #[arV v (readP s).1, .int .i64 ((readP s).2 : Int)]) ∧ ArIn w' v (readP s).1 ∧ Below w.heap.size w w' := by
  have HO := Lib.hid (fun V (hb : Below w.heap.size w V) => arenaOf_own s V hs (hG.next hb))
  have hS := fun v V (h : ArIn V v (arenaL s)) (hb : Below w.heap.size w V) => show_any v (arenaL s) V h (hG.next hb)
  have k0 := heap_alloc_new w (.cells #[.slice none 0 0, .bool false, .int .i64 0, .bool false] 26)
  have hb0 : Below w.heap.size w (w.alloc (.cells #[.slice none 0 0, .bool false, .int .i64 0, .bool false] 26)) := (Below.refl _ _).alloc (Nat.le_refl _) _
  have hRP : readP s = if checkE (arenaL s) = 0 ∧ arenaT (arenaL s) = s then (arenaL s, 0) else (zA, 4) := rfl
  clear hG hs
  by_cases hok : checkE (arenaL s) = 0 ∧ arenaT (arenaL s) = s
  · obtain ⟨h1, h2⟩ := hok
    have hsh : showR (arenaL s) = .tuple #[.string (strB s), .int .i64 0] := by unfold showR; rw [if_pos h1, h2]
    rw [if_pos ⟨h1, h2⟩] at hRP
    simp only [hsh] at hS
    have HS := Lib.hid hS
    rw [hRP]
    clear hRP hsh hS h1 h2
    dsimp only
    generalize arenaL s = a at *
    generalize strB s = S at *
    unfold arV at *
    go_enter Tryz.func45, Tryz.ntmps45
    go_upto_region 1 with (fail)
    generalize w.alloc (.cells #[.slice none 0 0, .bool false, .int .i64 0, .bool false] 26) = V at k0 hb0 ⊢
    have hVl := (Array.getElem?_eq_some_iff.1 k0).1
    have HK := Lib.hid k0
    clear k0
    go_upto_region 2 with (go_at_call 101; refine (HO.out _ hb0).mono ?_; rintro e w1 ⟨v, ps, rfl, hown, hcp, hlen, hq1⟩; obtain ⟨A, c, rfl⟩ := own_slice hown; have hin : ArIn w1 (.slice A a.ids.length c) a := ⟨SlT.of_rows hown hcp, hlen.1, hlen.2⟩)
    have hX : Below w1.heap.size w1 (w1.alloc (.cells #[.slice A a.ids.length c, .bool a.root.cell, .int .i64 a.root.n, .bool a.jumps] 26)) := (Below.refl _ _).alloc (Nat.le_refl _) _
    have NX := heap_alloc_new w1 (.cells #[.slice A a.ids.length c, .bool a.root.cell, .int .i64 a.root.n, .bool a.jumps] 26)
    have hvX := hq1.trans (hX.mono hq1.size)
    have hbX := hb0.trans (hvX.mono hb0.size)
    have hVX := heap_below hvX hVl HK.out
    have hinX := hin.below hX
    have hownX := own_below hown hX
    have hcpX := hcp.map fun p n xs hp => own_below hp hX
    have hw1 : w.heap.size < w1.heap.size := Nat.lt_of_lt_of_le hVl hq1.size
    have hVlt := hVl
    clear hin hown hcp hX hq1 hvX hb0 HK hVl
    generalize w1.alloc (.cells #[.slice A a.ids.length c, .bool a.root.cell, .int .i64 a.root.n, .bool a.jumps] 26) = X at *
    generalize w1.heap.size = B1 at *
    obtain ⟨⟨e0, e1, e2, e3⟩, -, hlX⟩ := four_c NX
    have hlV := (Array.getElem?_eq_some_iff.1 hVX).1
    have HNX := Lib.hid NX
    have HVX := Lib.hid hVX
    clear NX hVX
    go_upto_region 3 with (go_at_call 21; refine (HS.out _ _ hinX hbX).mono ?_; rintro e w2 ⟨rfl, hq2⟩)
    have hq2' : Below X.heap.size X w2 := ⟨hq2.os, hq2.tape, hq2.output, hq2.size, hq2.block⟩
    obtain ⟨⟨d0, d1, d2, d3⟩, -, -⟩ := four_c (heap_below hq2' hlX HNX.out)
    have h4 := heap_below hq2' hlV HVX.out
    obtain ⟨⟨q0, q1, q2, q3⟩, ⟨f0, f1, f2, f3⟩, hl4⟩ := four_c h4
    have H4 := Lib.hid h4
    have hb2 := hbX.trans (hq2'.mono hbX.size)
    have hown2 := Lib.hid (own_below hownX hq2')
    have hcp2 := Lib.hid (hcpX.map fun p n xs hp => own_below hp hq2')
    have hlen2 := Lib.hid hlen
    have hne : ¬ B1 = w.heap.size := by omega
    have hne' : ¬ w.heap.size = B1 := by omega
    have HB2 := Lib.hid hb2
    clear e0 e1 e2 e3 hinX hownX hcpX hlen hb2 hq2 hq2' hbX h4 hlX hlV hw1
    go_wp2
    refine bodyPost_ret (v := .tuple #[.agg #[.slice A a.ids.length c, .bool a.root.cell, .int .i64 a.root.n, .bool a.jumps], .int .i64 0]) (by simp [results, Tryz.results45, go_sem, q0, q1, q2, q3]) rfl ⟨_, rfl, ?_, below4s HB2.out (Nat.le_refl _)⟩
    exact ⟨SlT.of_rows (own4s hown2.out hVlt) (hcp2.out.map fun p n xs h => own4s h hVlt), hlen2.out.1, hlen2.out.2⟩
  · rw [if_neg hok] at hRP
    by_cases h1 : checkE (arenaL s) = 0
    · have h2 : arenaT (arenaL s) ≠ s := fun h => hok ⟨h1, h⟩
      have hsh : showR (arenaL s) = .tuple #[.string (strB (arenaT (arenaL s))), .int .i64 0] := by unfold showR; rw [if_pos h1]
      have he2 : ((strB (arenaT (arenaL s))).toList == (strB s).toList) = false := by
        rw [ByteArray.toList_eq, ByteArray.toList_eq, strB_toList, strB_toList]
        simpa using h2
      simp only [hsh] at hS
      have HS := Lib.hid hS
      clear hsh h1 h2 hok
      generalize strB (arenaT (arenaL s)) = st at *
      clear hS
      rw [hRP]
      clear hRP
      dsimp only
      generalize hae : arenaL s = a at *
      clear hae
      generalize strB s = S at *
      unfold arV at *
      go_enter Tryz.func45, Tryz.ntmps45
      go_upto_region 1 with (fail)
      generalize w.alloc (.cells #[.slice none 0 0, .bool false, .int .i64 0, .bool false] 26) = V at k0 hb0 ⊢
      have hVl := (Array.getElem?_eq_some_iff.1 k0).1
      have HK := Lib.hid k0
      clear k0
      go_upto_region 2 with (go_at_call 101; refine (HO.out _ hb0).mono ?_; rintro e w1 ⟨v, ps, rfl, hown, hcp, hlen, hq1⟩; obtain ⟨A, c, rfl⟩ := own_slice hown; have hin : ArIn w1 (.slice A a.ids.length c) a := ⟨SlT.of_rows hown hcp, hlen.1, hlen.2⟩)
      have hX : Below w1.heap.size w1 (w1.alloc (.cells #[.slice A a.ids.length c, .bool a.root.cell, .int .i64 a.root.n, .bool a.jumps] 26)) := (Below.refl _ _).alloc (Nat.le_refl _) _
      have NX := heap_alloc_new w1 (.cells #[.slice A a.ids.length c, .bool a.root.cell, .int .i64 a.root.n, .bool a.jumps] 26)
      have hvX := hq1.trans (hX.mono hq1.size)
      have hbX := hb0.trans (hvX.mono hb0.size)
      have hVX := heap_below hvX hVl HK.out
      have hinX := hin.below hX
      have hownX := own_below hown hX
      have hcpX := hcp.map fun p n xs hp => own_below hp hX
      have hw1 : w.heap.size < w1.heap.size := Nat.lt_of_lt_of_le hVl hq1.size
      have hVlt := hVl
      clear hin hown hcp hX hq1 hvX hb0 HK hVl
      generalize w1.alloc (.cells #[.slice A a.ids.length c, .bool a.root.cell, .int .i64 a.root.n, .bool a.jumps] 26) = X at *
      generalize w1.heap.size = B1 at *
      obtain ⟨⟨e0, e1, e2, e3⟩, -, hlX⟩ := four_c NX
      have hlV := (Array.getElem?_eq_some_iff.1 hVX).1
      have HNX := Lib.hid NX
      have HVX := Lib.hid hVX
      clear NX hVX
      go_upto_region 3 with (go_at_call 21; refine (HS.out _ _ hinX hbX).mono ?_; rintro e w2 ⟨rfl, hq2⟩)
      have hq2' : Below X.heap.size X w2 := ⟨hq2.os, hq2.tape, hq2.output, hq2.size, hq2.block⟩
      obtain ⟨⟨d0, d1, d2, d3⟩, -, -⟩ := four_c (heap_below hq2' hlX HNX.out)
      have h4 := heap_below hq2' hlV HVX.out
      obtain ⟨⟨q0, q1, q2, q3⟩, ⟨f0, f1, f2, f3⟩, hl4⟩ := four_c h4
      have H4 := Lib.hid h4
      have hb2 := hbX.trans (hq2'.mono hbX.size)
      have hown2 := Lib.hid (own_below hownX hq2')
      have hcp2 := Lib.hid (hcpX.map fun p n xs hp => own_below hp hq2')
      have hlen2 := Lib.hid hlen
      have hne : ¬ B1 = w.heap.size := by omega
      have hne' : ¬ w.heap.size = B1 := by omega
      have HB2 := Lib.hid hb2
      clear e0 e1 e2 e3 hinX hownX hcpX hlen hb2 hq2 hq2' hbX h4 hlX hlV hw1
      go_wp2
      refine bodyPost_ret (v := .tuple #[.agg #[.slice none 0 0, .bool false, .int .i64 0, .bool false], .int .i64 4]) (by simp [results, Tryz.results45, go_sem, q0, q1, q2, q3]) rfl ⟨_, rfl, zA_in _, below4s HB2.out (Nat.le_refl _)⟩
    · have hsh : showR (arenaL s) = .tuple #[.string (strB []), .int .i64 (checkE (arenaL s) : Int)] := by unfold showR; rw [if_neg h1]
      have hne9 : ((checkE (arenaL s) : Int) != 0) = true := by simp; omega
      simp only [hsh] at hS
      have HS := Lib.hid hS
      clear hsh h1 hok
      generalize checkE (arenaL s) = ec at *
      generalize strB [] = s0 at *
      clear hS
      rw [hRP]
      clear hRP
      dsimp only
      generalize hae : arenaL s = a at *
      clear hae
      generalize strB s = S at *
      unfold arV at *
      go_enter Tryz.func45, Tryz.ntmps45
      go_upto_region 1 with (fail)
      generalize w.alloc (.cells #[.slice none 0 0, .bool false, .int .i64 0, .bool false] 26) = V at k0 hb0 ⊢
      have hVl := (Array.getElem?_eq_some_iff.1 k0).1
      have HK := Lib.hid k0
      clear k0
      go_upto_region 2 with (go_at_call 101; refine (HO.out _ hb0).mono ?_; rintro e w1 ⟨v, ps, rfl, hown, hcp, hlen, hq1⟩; obtain ⟨A, c, rfl⟩ := own_slice hown; have hin : ArIn w1 (.slice A a.ids.length c) a := ⟨SlT.of_rows hown hcp, hlen.1, hlen.2⟩)
      have hX : Below w1.heap.size w1 (w1.alloc (.cells #[.slice A a.ids.length c, .bool a.root.cell, .int .i64 a.root.n, .bool a.jumps] 26)) := (Below.refl _ _).alloc (Nat.le_refl _) _
      have NX := heap_alloc_new w1 (.cells #[.slice A a.ids.length c, .bool a.root.cell, .int .i64 a.root.n, .bool a.jumps] 26)
      have hvX := hq1.trans (hX.mono hq1.size)
      have hbX := hb0.trans (hvX.mono hb0.size)
      have hVX := heap_below hvX hVl HK.out
      have hinX := hin.below hX
      have hownX := own_below hown hX
      have hcpX := hcp.map fun p n xs hp => own_below hp hX
      have hw1 : w.heap.size < w1.heap.size := Nat.lt_of_lt_of_le hVl hq1.size
      have hVlt := hVl
      clear hin hown hcp hX hq1 hvX hb0 HK hVl
      generalize w1.alloc (.cells #[.slice A a.ids.length c, .bool a.root.cell, .int .i64 a.root.n, .bool a.jumps] 26) = X at *
      generalize w1.heap.size = B1 at *
      obtain ⟨⟨e0, e1, e2, e3⟩, -, hlX⟩ := four_c NX
      have hlV := (Array.getElem?_eq_some_iff.1 hVX).1
      have HNX := Lib.hid NX
      have HVX := Lib.hid hVX
      clear NX hVX
      go_upto_region 3 with (go_at_call 21; refine (HS.out _ _ hinX hbX).mono ?_; rintro e w2 ⟨rfl, hq2⟩)
      have hq2' : Below X.heap.size X w2 := ⟨hq2.os, hq2.tape, hq2.output, hq2.size, hq2.block⟩
      obtain ⟨⟨d0, d1, d2, d3⟩, -, -⟩ := four_c (heap_below hq2' hlX HNX.out)
      have h4 := heap_below hq2' hlV HVX.out
      obtain ⟨⟨q0, q1, q2, q3⟩, ⟨f0, f1, f2, f3⟩, hl4⟩ := four_c h4
      have H4 := Lib.hid h4
      have hb2 := hbX.trans (hq2'.mono hbX.size)
      have hown2 := Lib.hid (own_below hownX hq2')
      have hcp2 := Lib.hid (hcpX.map fun p n xs hp => own_below hp hq2')
      have hlen2 := Lib.hid hlen
      have hne : ¬ B1 = w.heap.size := by omega
      have hne' : ¬ w.heap.size = B1 := by omega
      have HB2 := Lib.hid hb2
      clear e0 e1 e2 e3 hinX hownX hcpX hlen hb2 hq2 hq2' hbX h4 hlX hlV hw1
      go_wp2
      refine bodyPost_ret (v := .tuple #[.agg #[.slice none 0 0, .bool false, .int .i64 0, .bool false], .int .i64 4]) (by simp [results, Tryz.results45, go_sem, q0, q1, q2, q3]) rfl ⟨_, rfl, zA_in _, below4s HB2.out (Nat.le_refl _)⟩

end Go.Proofs.YtoncdnelacolaaaGreatDoor.Ar
