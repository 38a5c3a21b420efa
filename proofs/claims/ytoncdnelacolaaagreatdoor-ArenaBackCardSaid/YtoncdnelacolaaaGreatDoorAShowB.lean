/- Show: an arena's text, or its error. -/
import Derived.Test.YtoncdnelacolaaaGreatDoorAText
import Derived.Deep.RegionLaw
import Derived.Deep.AppendLies
import Derived.Deep.Cut
import Derived.Deep.DeepCutAuto
namespace Go.Proofs.YtoncdnelacolaaaGreatDoor.Ar
open Go Go.Proofs Go.RowKit Lx Ps

set_option maxRecDepth 100000 in
set_option maxHeartbeats 1000000 in
theorem typeText_flat (t : Ty) (pv : Value) (w : World) (hp : SlB w pv t.params) (hn : t.params = []) (h0 : -9223372036854775808 ≤ t.result.n) (h1 : t.result.n ≤ 9223372036854775807) (hG : Ga w) :
    Calls Tryz.prog 113 #[tyV pv t] w fun e w' => e = .returned (.string (strB (typeT t))) ∧ Below w.heap.size w w' := by
  have ht : typeT t = baseT t.result := by unfold typeT; rw [if_pos hn]
  rw [ht]
  obtain ⟨A, cap, rfl, -⟩ := hp
  have hl : t.params.length = 0 := by rw [hn]; rfl
  rw [hl]
  have hb0 : Below w.heap.size w (w.alloc (.cells #[.slice A 0 cap, .bool t.result.cell, .int .i64 t.result.n] 64)) := (Below.refl _ _).alloc (Nat.le_refl _) _
  have hI := baseText_any t.result _ h0 h1 (hG.next hb0)
  unfold bsV at hI
  have HI := Lib.hid hI
  clear hI ht hn hl
  generalize strB (baseT t.result) = si at *
  unfold tyV
  go_enter Tryz.func113, Tryz.ntmps113
  go_wp2_with (go_at_call 111; refine HI.out.mono ?_; rintro e w1 ⟨rfl, hb1⟩)
  go_ret
  exact ⟨rfl, hb0.trans (hb1.mono hb0.size)⟩

theorem lit_owns (n0 : Nat) (W : World) (x : Value) (T : TypeId) (h : n0 ≤ W.heap.size) : (W.alloc (.cells #[x] T)).ownsRow n0 T 1 (.slice (some ⟨W.heap.size, 0, none⟩) 1 1) 1 [x] :=
  ⟨rfl, .inr ⟨W.heap.size, 1, #[x], rfl, h, heap_alloc_new W _, Nat.le_refl _, by unfold maxLen; omega, rfl, rfl⟩⟩
theorem own_news {W : World} {n0 g c n : Nat} {T : TypeId} {xs : List Value} (h : W.ownsRow n0 T 1 (.slice (some ⟨g, 0, none⟩) n c) n xs) (j : Nat) (u : Value) (hu : xs[j]? = some u) : W.cell? ((⟨g, 0, none⟩ : Addr).add j) = some u := by
  have e : ((⟨g, 0, none⟩ : Addr).add j) = ⟨g, j, none⟩ := by simp only [Addr.add, Nat.zero_add]; split <;> simp_all
  rw [e]
  have hlt : j < xs.length := (List.getElem?_eq_some_iff.1 hu).1
  exact (World.ownsRow.cellAt h j (by rw [← h.1]; exact hlt)).trans hu
theorem own_pos {W : World} {n0 n : Nat} {T : TypeId} {v : Value} {xs : List Value} (h : W.ownsRow n0 T 1 v n xs) (hn : 0 < n) : ∃ g c, v = .slice (some ⟨g, 0, none⟩) n c := by
  rcases h.2 with ⟨_, h0⟩ | ⟨g, cap, cur, rfl, _⟩
  · omega
  · exact ⟨g, cap, rfl⟩
theorem strs_cells (l : List ByteArray) : l.map Value.string = l.flatMap fun x => [Value.string x] := by induction l <;> simp_all
/-- Texts that lie in memory of the call's own, joined. -/
theorem join_any (n0 : Nat) (v : Value) (xs : List (List UInt8)) (sep : List UInt8) (w : World) (hown : w.ownsRow n0 9 1 v xs.length (xs.map fun x => .string (strB x))) (hx : xs.length ≤ 1000000) (hj : (Lib.join xs sep).length ≤ 140737488355328) :
    Calls Tryz.prog 114 #[v, .string (strB sep)] w fun e w' => e = .returned (.string (strB (Lib.join xs sep))) ∧ Below w.heap.size w w' := by
  have hm : (xs.map strB).map (·.data.toList) = xs := by
    have e : ((fun x : ByteArray => x.data.toList) ∘ strB) = id := by funext l; rfl
    rw [List.map_map, e, List.map_id]
  have hc := hown
  rcases hown.2 with ⟨rfl, h0⟩ | ⟨g, cap, cur, rfl, _, hgb, hle, _⟩
  · have hnil : xs = [] := List.length_eq_zero_iff.1 h0
    subst hnil
    exact (Tryz.strings_Join_none none 0 (strB sep) w).mono fun _ _ ⟨h1, h2⟩ => ⟨h1.trans (by simp [Lib.join, strB]), h2 ▸ Below.refl _ _⟩
  · have hcell : ∀ (j : Nat) x, (xs.map strB)[j]? = some x → w.cell? ⟨g, 0 + j, none⟩ = some (.string x) := fun j x hjx => by
      rw [Nat.zero_add]
      have hlt : j < xs.length := by have := (List.getElem?_eq_some_iff.1 hjx).1; simpa using this
      refine (World.ownsRow.cellAt hc j (by omega)).trans ?_
      rw [List.getElem?_map] at hjx ⊢
      cases h : xs[j]? with
      | none => rw [h] at hjx; cases hjx
      | some y => rw [h] at hjx; simp at hjx; subst hjx; rfl
    have := Tryz.strings_Join g 0 cap (xs.map strB) (strB sep) w hcell (Array.getElem?_eq_some_iff.1 hgb).1 (by simp; omega) (by simpa using hle) (by rw [hm]; exact hj)
    rw [hm, List.length_map] at this
    exact this

set_option maxRecDepth 100000 in
set_option maxHeartbeats 1000000 in
theorem arenaText_flat (ids : Value) (a : Ar) (w : World) (hin : ArIn w ids a) (hne : a.ids ≠ []) (hlen : a.ids.length ≤ 1000) (hflat : ∀ t ∈ a.ids, t.params = [] ∧ -9223372036854775808 ≤ t.result.n ∧ t.result.n ≤ 9223372036854775807)
    (h0 : -9223372036854775808 ≤ a.root.n) (h1 : a.root.n ≤ 9223372036854775807) (hj : (arenaT a).length ≤ 140737488355328) (hG : Ga w) :
    Calls Tryz.prog 63 #[arV ids a] w fun e w' => e = .returned (.string (strB (arenaT a))) ∧ Below w.heap.size w w' := by
  have hB : ∀ V, Below w.heap.size w V → Calls Tryz.prog 111 #[bsV a.root] V fun e w' => e = .returned (.string (strB (baseT a.root))) ∧ Below V.heap.size V w' := fun V hb => baseText_any a.root V h0 h1 (hG.next hb)
  have hL : ∀ V, Below w.heap.size w V → Calls Tryz.prog 112 #[ids, .func (.func 113) #[] #[]] V fun e w' => ∃ u, e = .returned u ∧ w'.ownsRow V.heap.size 9 1 u a.ids.length (a.ids.flatMap fun x => [Value.string (strB (typeT x))]) ∧ Below V.heap.size V w' := fun V hb =>
    listTS (fun x => strB (typeT x)) ids a.ids V (hin.sl.below hb) (by omega) (fun x pv U hx hpv hbU => typeText_flat x pv U hpv (hflat x hx).1 (hflat x hx).2.1 (hflat x hx).2.2 (hG.up hb hbU))
  obtain ⟨A, cap, rfl, -⟩ := hin.sl
  have hlp : 0 < a.ids.length := List.length_pos_iff.2 hne
  have hcs : (a.ids.flatMap fun x => [Value.string (strB (typeT x))]).length = a.ids.length := by induction a.ids <;> simp_all
  obtain ⟨i0, hi, hz0, hz1, hz2⟩ := info_parts str_info
  have hb0 : Below w.heap.size w (w.alloc (.cells #[.slice A a.ids.length cap, .bool a.root.cell, .int .i64 a.root.n, .bool a.jumps] 26)) := (Below.refl _ _).alloc (Nat.le_refl _) _
  have K := heap_alloc_new w (.cells #[.slice A a.ids.length cap, .bool a.root.cell, .int .i64 a.root.n, .bool a.jumps] 26)
  have HB := Lib.hid hB
  have HL := Lib.hid hL
  have HJ := Lib.hid hj
  have Hcs := Lib.hid hcs
  clear hB hL hj hflat hne hin hcs
  unfold arV at *
  go_enter Tryz.func63, Tryz.ntmps63
  go_upto_region 1 with (fail)
  generalize w.alloc (.cells #[.slice A a.ids.length cap, .bool a.root.cell, .int .i64 a.root.n, .bool a.jumps] 26) = V at K hb0 ⊢
  obtain ⟨⟨c0, c1, c2, c3⟩, -, hVl⟩ := four_c K
  have HK := Lib.hid K
  clear K
  unfold bsV at HB
  go_cut [3] (fun u wx => wx.ownsRow V.heap.size 9 1 u (1 + a.ids.length) ([.string (strB (baseT a.root))] ++ a.ids.flatMap fun x => [Value.string (strB (typeT x))]) ∧ Below V.heap.size V wx)
  case first =>
    go_region_law (first
      | (go_simp; go_at_call 111; refine (HB.out V.drew hb0.drew).mono ?_; rintro e w2 ⟨rfl, hb2⟩; have vz2 : V.heap.size ≤ w2.heap.size := hb2.size; have hw2 : Below w.heap.size w w2 := hb0.drew.trans (hb2.mono hb0.size); have hw2a := fun o => hw2.alloc hw2.size o; obtain ⟨⟨d0, d1, d2, d3⟩, -, dl⟩ := four_c (heap_below hb2 hVl HK.out); have vb2 : Below V.heap.size V w2 := ⟨hb2.os, hb2.tape, hb2.output, hb2.size, hb2.block⟩)
      | (go_simp; go_at_call 112; refine (HL.out _ (by first | exact hw2 | exact hw2a _)).mono ?_; rintro e w3 ⟨u, rfl, hown, hb3⟩; obtain ⟨gl, cl, rfl⟩ := own_pos hown hlp; have vz3 : V.heap.size ≤ w3.heap.size := Nat.le_trans (by first | exact vz2 | (rw [alloc_sz2]; omega)) hb3.size; have vb3 : Below V.heap.size V w3 := (by first | exact vb2.trans (hb3.mono vz2) | exact (vb2.alloc vz2 _).trans (hb3.mono (by rw [alloc_sz2]; omega))))
      | (refine step_append_lies _ (by rfl) _ _ _ (by rfl) V.heap.size 9 i0 _ 1 16 Tryz.underlying125 hi hz0 hz1 hz2 rfl (by omega) _ 1 [.string (strB (baseT a.root))] (by rfl) (by first | exact own_below (lit_owns _ _ _ _ (by assumption)) hb3 | exact lit_owns _ _ _ _ (by assumption)) ⟨gl, 0, none⟩ a.ids.length cl _ (by rfl) (by rw [Hcs.out]; omega) (by first | exact own_news hown | exact own_news (own_below hown ((Below.refl _ _).alloc (Nat.le_refl _) _))) (fun u hu => by simp at hu; obtain ⟨x, _, rfl⟩ := hu; rfl) (by omega) (by unfold maxLen; omega) (by omega) (by first | assumption | (rw [alloc_sz2]; omega)) _ rfl ?_; intro gg cap2 w4 hown2 hgrow hat hlt2))
    all_goals
      go_wp2
      go_meet
      exact ⟨hown2, by first | exact vb3.grown hgrow vz3 (fun j e => by first | (have e2 : some w2.heap.size = some j := e; injection e2; omega) | (have e2 : some w3.heap.size = some j := e; injection e2; omega)) | exact (vb3.alloc vz3 _).grown hgrow (by rw [alloc_sz2]; omega) (fun j e => by first | (have e2 : some w2.heap.size = some j := e; injection e2; omega) | (have e2 : some w3.heap.size = some j := e; injection e2; omega))⟩
  case rest =>
    obtain ⟨hown, hbx⟩ := hcut
    obtain ⟨gl, cl, rfl⟩ := own_pos hown (by omega)
    obtain ⟨⟨d0, d1, d2, d3⟩, -, dl⟩ := four_c ((hbx.block _ hVl).trans HK.out)
    have hzx := hbx.size
    have hp : ∀ j : Bool, a.jumps = j → partsT a = [baseT a.root] ++ a.ids.map typeT ++ (if j then [[106, 117, 109, 112, 115]] else []) := fun j e => by unfold partsT; rw [e]
    have hmap : (([baseT a.root] ++ a.ids.map typeT).map fun x => Value.string (strB x)) = [.string (strB (baseT a.root))] ++ a.ids.flatMap fun x => [Value.string (strB (typeT x))] := by
      rw [List.map_append, List.map_map]
      congr 1
      induction a.ids with
      | nil => rfl
      | cons t r ih => simp only [List.map_cons, List.flatMap_cons, List.cons_append, List.nil_append, ih, Function.comp]
    have hJ : ∀ (j : Bool) (v : Value) (W : World), a.jumps = j → (W.ownsRow V.heap.size 9 1 v (partsT a).length ((partsT a).map fun x => .string (strB x))) → Calls Tryz.prog 114 #[v, .string ⟨#[59, 32]⟩] W fun e w' => e = .returned (.string (strB (arenaT a))) ∧ Below W.heap.size W w' := fun j v W hjj ho =>
      join_any V.heap.size v (partsT a) [59, 32] W ho (by rw [hp j hjj]; cases j <;> simp <;> omega) HJ.out
    have hwx : Below w.heap.size w wc := hb0.trans (hbx.mono hb0.size)
    have Hwx := Lib.hid hwx
    have Hown := Lib.hid hown
    cases hc : a.jumps
    · have hpp := hp false hc
      have hj0 : wc.ownsRow V.heap.size 9 1 (.slice (some ⟨gl, 0, none⟩) (1 + a.ids.length) cl) (partsT a).length ((partsT a).map fun x => .string (strB x)) := by
        rw [hpp]
        simp only [Bool.false_eq_true, if_false, List.append_nil]
        rw [hmap, show ([baseT a.root] ++ a.ids.map typeT).length = 1 + a.ids.length by simp; omega]
        exact hown
      have HJJ := Lib.hid (hJ false _ wc hc hj0)
      rw [hc] at d3
      clear hJ hj0 hpp hp hmap hc hown hwx hbx c0 c1 c2 c3
      go_wp2_with (go_at_call 114; refine HJJ.out.mono ?_; rintro e w6 ⟨rfl, hb6⟩)
      go_ret
      exact ⟨rfl, Hwx.out.trans (hb6.mono Hwx.out.size)⟩
    · have hpp := hp true hc
      have hj1 : ∀ (v : Value) (W : World), W.ownsRow V.heap.size 9 1 v (1 + a.ids.length + 1) (([.string (strB (baseT a.root))] ++ a.ids.flatMap fun x => [Value.string (strB (typeT x))]) ++ [.string ⟨#[106, 117, 109, 112, 115]⟩]) → W.ownsRow V.heap.size 9 1 v (partsT a).length ((partsT a).map fun x => .string (strB x)) := fun v W ho => by
        rw [hpp]
        simp only [if_true]
        rw [List.map_append, hmap, show ([baseT a.root] ++ a.ids.map typeT ++ [([106, 117, 109, 112, 115] : List UInt8)]).length = 1 + a.ids.length + 1 by simp; omega]
        exact ho
      have HJ1 := Lib.hid (fun v W h => hJ true v W hc (hj1 v W h))
      rw [hc] at d3
      have hzw := hwx.size
      clear hJ hj1 hpp hp hmap hc hwx c0 c1 c2 c3
      go_wp2_with (first
        | (go_at_call 114; refine (HJ1.out _ _ hown5).mono ?_; rintro e w6 ⟨rfl, hb6⟩)
        | (at_builtin; refine wpList_append_own _ rfl _ _ 125 rfl V.heap.size 9 i0 _ 1 16 Tryz.underlying125 hi hz0 hz1 hz2 rfl (by decide) _ _ _ rfl (hown.alloc _) ⟨wc.heap.size, 0, none⟩ 1 1 [.string ⟨#[106, 117, 109, 112, 115]⟩] rfl rfl (lit_new2 _ _ _ rfl _) (fun u hu => by simp at hu; subst hu; rfl) (by unfold maxLen; omega) (by omega) (by simp; omega) ?_; intro v' w5 hown5 hgrow5 _))
      go_ret
      have hb5 : Below w.heap.size w w5 := (Hwx.out.alloc Hwx.out.size _).grown hgrow5 (by rw [alloc_sz2]; omega) (fun j e => by
        have := (World.ownsRow.lt Hown.out j e).1
        have := hb0.size
        omega)
      exact ⟨rfl, hb5.trans (hb6.mono hb5.size)⟩

end Go.Proofs.YtoncdnelacolaaaGreatDoor.Ar

namespace Go.Proofs.YtoncdnelacolaaaGreatDoor.Ar
open Go Go.Proofs Go.RowKit Lx Ps

/-- What Show returns. -/
def showR (a : Ar) : Value := if checkE a = 0 then .tuple #[.string (strB (arenaT a)), .int .i64 0] else .tuple #[.string (strB []), .int .i64 (checkE a : Int)]

set_option maxRecDepth 100000 in
set_option maxHeartbeats 1000000 in
/-- Given arenaText's contract. -/
theorem show_of (ids : Value) (a : Ar) (w : World) (hin : ArIn w ids a)
    (hT : checkE a = 0 → ∀ V, Below w.heap.size w V → Calls Tryz.prog 63 #[arV ids a] V fun e w' => e = .returned (.string (strB (arenaT a))) ∧ Below V.heap.size V w') :
    Calls Tryz.prog 21 #[arV ids a] w fun e w' => e = .returned (showR a) ∧ Below w.heap.size w w' := by
  have hC : ∀ V, Below w.heap.size w V → Calls Tryz.prog 19 #[arV ids a] V fun e w' => e = .returned (.int .i64 (checkE a : Int)) ∧ Below V.heap.size V w' := fun V hb => check_any ids a V (hin.below hb)
  obtain ⟨A, cap, rfl, -⟩ := hin.sl
  clear hin
  have hb0 : Below w.heap.size w (w.alloc (.cells #[.slice A a.ids.length cap, .bool a.root.cell, .int .i64 a.root.n, .bool a.jumps] 26)) := (Below.refl _ _).alloc (Nat.le_refl _) _
  have K := heap_alloc_new w (.cells #[.slice A a.ids.length cap, .bool a.root.cell, .int .i64 a.root.n, .bool a.jumps] 26)
  unfold showR
  by_cases h0 : checkE a = 0
  · rw [if_pos h0]
    have hT := hT h0
    rw [h0] at hC
    have HC := Lib.hid hC
    have HT := Lib.hid hT
    clear hC hT h0
    generalize strB (arenaT a) = sa at *
    unfold arV at *
    go_enter Tryz.func21, Tryz.ntmps21
    go_upto_region 1 with (fail)
    generalize w.alloc (.cells #[.slice A a.ids.length cap, .bool a.root.cell, .int .i64 a.root.n, .bool a.jumps] 26) = V at K hb0 ⊢
    obtain ⟨⟨c0, c1, c2, c3⟩, -, hVl⟩ := four_c K
    have HK := Lib.hid K
    clear K
    go_wp2_with (first
      | (go_at_call 19; refine (HC.out _ hb0).mono ?_; rintro e w1 ⟨rfl, hb1⟩; obtain ⟨⟨d0, d1, d2, d3⟩, -, hVl1⟩ := four_c (heap_below hb1 hVl HK.out); have hb2 := hb0.trans (hb1.mono hb0.size))
      | (go_at_call 63; refine (HT.out _ hb2).mono ?_; rintro e w3 ⟨rfl, hb3⟩))
    refine bodyPost_ret (v := .tuple #[.string sa, .int .i64 0]) (by simp [results, Tryz.results21, go_sem]) rfl ⟨rfl, ?_⟩
    exact hb2.trans (hb3.mono hb2.size)
  · rw [if_neg h0]
    have hne : ((checkE a : Int) != 0) = true := by simp; omega
    generalize checkE a = e at *
    have HC := Lib.hid hC
    clear hC hT h0
    unfold arV at *
    go_enter Tryz.func21, Tryz.ntmps21
    go_upto_region 1 with (fail)
    generalize w.alloc (.cells #[.slice A a.ids.length cap, .bool a.root.cell, .int .i64 a.root.n, .bool a.jumps] 26) = V at K hb0 ⊢
    obtain ⟨⟨c0, c1, c2, c3⟩, -, hVl⟩ := four_c K
    clear K
    go_wp2_with (go_at_call 19; refine (HC.out _ hb0).mono ?_; rintro e1 w1 ⟨rfl, hb1⟩; have hb2 := hb0.trans (hb1.mono hb0.size))
    refine bodyPost_ret (v := .tuple #[.string ⟨#[]⟩, .int .i64 (e : Int)]) (by simp [results, Tryz.results21, go_sem]) rfl ⟨rfl, ?_⟩
    exact hb2

end Go.Proofs.YtoncdnelacolaaaGreatDoor.Ar
