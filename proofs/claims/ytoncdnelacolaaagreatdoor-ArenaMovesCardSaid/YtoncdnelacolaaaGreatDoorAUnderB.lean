/- Under: the questions that a question allows. -/
import Derived.Test.YtoncdnelacolaaaGreatDoorAUnder
import Derived.Test.YtoncdnelacolaaaGreatDoorAMoves
import Derived.Test.YtoncdnelacolaaaGreatDoorAWalkH
import Derived.Deep.RegionWith
namespace Go.Proofs.YtoncdnelacolaaaGreatDoor.Ar
open Go Go.Proofs Go.RowKit Lx Ps

theorem allowP_id {p : Pl} (h : isId p = false) : allowP p = isId := by funext q; unfold allowP; rw [h]; rfl
theorem allowP_arg {p : Pl} (h : isId p = true) : allowP p = argOf p := by funext q; unfold allowP argOf; rw [h]; rfl
theorem placeM_mem {a : Ar} {m : Mv} {p : Pl} (h : placeM a m = some p) : hasP p m = true ∧ m.id = p.id ∧ m.arg = p.arg := by
  unfold placeM at h
  cases hp : plAt a m.id m.arg with
  | none => rw [hp] at h; cases h
  | some q =>
    rw [hp] at h
    dsimp only at h
    split at h
    · cases h
      exact ⟨‹_›, plAt_int hp⟩
    · cases h

/-- What the last statement of Under does: the test, the row, the list. -/
theorem under_gather (ids : Value) (a : Ar) (p : Pl) (V V1 : World) (hin : ArIn V ids a) (hR : Right a) (hb : Below V.heap.size V V1) (hbx : V1.heap[V.heap.size]? = some (.cells #[.bool p.base.cell, .int .i64 p.base.n, .int .i64 (p.id : Int), .int .i64 (p.arg : Int), .bool p.jumps] 85 (0, 0))) :
    Calls Tryz.prog 60 #[.func (.func 122) #[] #[.pointer (some ⟨V1.heap.size, 0, none⟩), .pointer (some ⟨V1.heap.size + 1, 0, none⟩)], .func (.func 80) #[] #[]]
      ((V1.alloc (.cells #[ids, .bool a.root.cell, .int .i64 a.root.n, .bool a.jumps] 80)).alloc (.cells #[isV p V.heap.size] 102)) fun e w' => ∃ v, e = .returned v ∧ w'.ownsRow V.heap.size 40 4 v (underM a p).length (mvCells (underM a p)) ∧ Below V.heap.size V w' := by
  have hlen := under_len hR p
  obtain ⟨k1, k2⟩ := blocks2 V1 (.cells #[ids, .bool a.root.cell, .int .i64 a.root.n, .bool a.jumps] 80) (.cells #[isV p V.heap.size] 102)
  have hb2 : Below V1.heap.size V1 ((V1.alloc (.cells #[ids, .bool a.root.cell, .int .i64 a.root.n, .bool a.jumps] 80)).alloc (.cells #[isV p V.heap.size] 102)) := below_two
  have hb3 := hb.trans (hb2.mono hb.size)
  have hin2 := hin.below hb3
  have hbx2 := heap_below hb2 (Array.getElem?_eq_some_iff.1 hbx).1 hbx
  obtain ⟨W2, hW2⟩ : ∃ W2, ((V1.alloc (.cells #[ids, .bool a.root.cell, .int .i64 a.root.n, .bool a.jumps] 80)).alloc (.cells #[isV p V.heap.size] 102)) = W2 := ⟨_, rfl⟩
  rw [hW2] at k1 k2 hb2 hb3 hin2 hbx2 ⊢
  have hps : ∀ (q : Pl) (l : List Mv) (U : World), q ∈ (placesL a).filter (allowP p) → Lst W2.heap.size (W2.heap.size + 1) U l → l.length + 400 ≤ 1000000 →
      Calls Tryz.prog 80 #[plV q, yV (W2.heap.size + 1)] U fun e W' => (∃ v, e = .returned v) ∧ Lst W2.heap.size (W2.heap.size + 1) W' (l ++ questP q) ∧ Full W2.heap.size U W' := fun q l U hq hL hl => by
    obtain ⟨N, hN, hN2, -⟩ := place_base hR (List.mem_filter.1 hq).1
    exact quest_push _ _ N q l U hL hN hN2 (by omega)
  have hg : ∀ (f : Pl → Bool), allowP p = f → (∀ U, Below W2.heap.size W2 U → SeqAt AnyO Fence.wide 4 Tryz.prog 122 (fun y => #[y] ++ #[.pointer (some ⟨V1.heap.size, 0, none⟩), .pointer (some ⟨V1.heap.size + 1, 0, none⟩)]) encP (Kp W2.heap.size)
      (fun ys => ys = (placesL a).filter f) (fun pre => pre <+: (placesL a).filter f) (fun pre x => pre ++ [x] <+: (placesL a).filter f) U) →
      Calls Tryz.prog 60 #[.func (.func 122) #[] #[.pointer (some ⟨V1.heap.size, 0, none⟩), .pointer (some ⟨V1.heap.size + 1, 0, none⟩)], .func (.func 80) #[] #[]] W2 fun e w' => ∃ v, e = .returned v ∧ w'.ownsRow W2.heap.size 40 4 v (((placesL a).filter f).flatMap questP).length (mvCells (((placesL a).filter f).flatMap questP)) ∧ Below W2.heap.size W2 w' := fun f hf hs =>
    gather_quests 122 #[] #[.pointer (some ⟨V1.heap.size, 0, none⟩), .pointer (some ⟨V1.heap.size + 1, 0, none⟩)] _ ((placesL a).filter f) questP W2
      (fun b g hg => hands_plain hg trivial (enters_of Tryz.func122 (by kernel_rfl) rfl)) hs (fun q l U hq hL hl => hps q l U (by rw [hf]; exact hq) hL hl)
      (by have : (underM a p).length = (((placesL a).filter f).flatMap questP).length := by unfold underM; rw [hf]
          omega)
  have hU : ∀ (f : Pl → Bool), allowP p = f → underM a p = ((placesL a).filter f).flatMap questP := fun f hf => by unfold underM; rw [hf]
  cases hi : isId p
  · have he : isV p V.heap.size = .func (.func 73) #[] #[] := by unfold isV; rw [hi]; rfl
    have hgg := hg isId (allowP_id hi) (fun U hbU => that_id 4 ids a _ _ W2 U hin2 hbU k1 (by rw [← he]; exact k2))
    rw [hU _ (allowP_id hi)]
    exact hgg.mono fun e w' ⟨v, h1, h2, h3⟩ => ⟨v, h1, World.ownsRow.mono h2 hb3.size, hb3.trans (h3.mono hb3.size)⟩
  · have he : isV p V.heap.size = .func (.func 123) #[] #[.pointer (some ⟨V.heap.size, 0, none⟩)] := by unfold isV; rw [hi]; rfl
    have hgg := hg (argOf p) (allowP_arg hi) (fun U hbU => that_arg 4 ids a p _ _ V.heap.size W2 U hin2 hbU k1 (by rw [← he]; exact k2) hbx2)
    rw [hU _ (allowP_arg hi)]
    exact hgg.mono fun e w' ⟨v, h1, h2, h3⟩ => ⟨v, h1, World.ownsRow.mono h2 hb3.size, hb3.trans (h3.mono hb3.size)⟩

theorem isV_form (p : Pl) (B : Nat) : ∃ fn lb, isV p B = .func fn #[] lb := by
  unfold isV
  split
  · exact ⟨_, _, rfl⟩
  · exact ⟨_, _, rfl⟩
set_option maxRecDepth 100000 in
set_option maxHeartbeats 1000000 in
theorem under_any (ids : Value) (a : Ar) (m : Mv) (p : Pl) (w : World) (hin : ArIn w ids a) (h0 : checkE a = 0) (hp : placeM a m = some p) (hk : m.kind ≠ 3) :
    Calls Tryz.prog 30 #[arV ids a, mvV m] w fun e w' => ∃ v, e = .returned (.tuple #[v, .int .i64 0]) ∧ w'.ownsRow w.heap.size 40 4 v (underM a p).length (mvCells (underM a p)) ∧ Below w.heap.size w w' := by
  have hR := right_of h0
  have hA : ∀ V, Below w.heap.size w V → Calls Tryz.prog 74 #[arV ids a, mvV m] V fun r w' => r = .returned (.tuple #[arV ids a, plV p, .int .i64 0]) ∧ Below V.heap.size V w' := fun V hb => (askedPlace_any ids a m V (hin.below hb)).mono fun _ _ ⟨h1, h2⟩ => ⟨h1.trans (by rw [apR_some h0 hp hk]), h2⟩
  have hG : ∀ V V1, Below w.heap.size w V → Below V.heap.size V V1 → V1.heap[V.heap.size]? = some (.cells #[.bool p.base.cell, .int .i64 p.base.n, .int .i64 (p.id : Int), .int .i64 (p.arg : Int), .bool p.jumps] 85 (0, 0)) → _ := fun V V1 hb hb1 hbx => under_gather ids a p V V1 (hin.below hb) hR hb1 hbx
  have hal := fun V => allowed_any p V
  have hv := isV_form p
  obtain ⟨A, cap, rfl, -⟩ := hin.sl
  have hT : ∀ (B : Nat) (V : World), Calls Tryz.prog 78 #[arV (.slice A a.ids.length cap) a, isV p B] V fun e w' => e = .returned (.func (.func 122) #[] #[.pointer (some ⟨V.heap.size, 0, none⟩), .pointer (some ⟨V.heap.size + 1, 0, none⟩)]) ∧
      (V.alloc (.cells #[.slice A a.ids.length cap, .bool a.root.cell, .int .i64 a.root.n, .bool a.jumps] 80)).alloc (.cells #[isV p B] 102) = w' := fun B V => by
    obtain ⟨fn, lb, h⟩ := hv B
    exact placesThat_any _ _ a A _ cap rfl fn _ lb h V
  have hba : Below w.heap.size w ((w.alloc (.cells #[.slice A a.ids.length cap, .bool a.root.cell, .int .i64 a.root.n, .bool a.jumps] 26)).alloc (.cells #[.int .i64 m.id, .int .i64 m.arg, .int .u8 (m.kind : Int), .int .i64 m.n] 40)) := below_two
  have HA := Lib.hid hA
  have HG := Lib.hid hG
  have HL := Lib.hid hal
  have HT := Lib.hid hT
  have HV := Lib.hid hv
  clear hin h0 hp hk hR hA hG hal hT hv
  generalize underM a p = L at *
  unfold arV mvV plV at *
  go_enter Tryz.func30, Tryz.ntmps30
  go_upto_region 4 with (go_at_call 74; refine (HA.out _ hba).mono ?_; rintro r w1 ⟨rfl, hb1⟩; have hb2 := hba.trans (hb1.mono hba.size))
  have K3 := Below.alloc (hb2.alloc hb2.size (.cells #[.slice A a.ids.length cap, .bool a.root.cell, .int .i64 a.root.n, .bool a.jumps] 80)) (by rw [alloc_sz2]; have := hb2.size; omega) (.cells #[.bool p.base.cell, .int .i64 p.base.n, .int .i64 (p.id : Int), .int .i64 (p.arg : Int), .bool p.jumps] 85)
  obtain ⟨K4, K5⟩ := blocks2 w1 (.cells #[.slice A a.ids.length cap, .bool a.root.cell, .int .i64 a.root.n, .bool a.jumps] 80) (.cells #[.bool p.base.cell, .int .i64 p.base.n, .int .i64 (p.id : Int), .int .i64 (p.arg : Int), .bool p.jumps] 85)
  generalize ((w1.alloc (.cells #[.slice A a.ids.length cap, .bool a.root.cell, .int .i64 a.root.n, .bool a.jumps] 80)).alloc (.cells #[.bool p.base.cell, .int .i64 p.base.n, .int .i64 (p.id : Int), .int .i64 (p.arg : Int), .bool p.jumps] 85)) = V at K3 K4 K5 ⊢
  obtain ⟨⟨r00, r01, r02, r03⟩, -, x4⟩ := four_c K4
  obtain ⟨⟨r10, r11, r12, r13, r14⟩, -, x5⟩ := five_c K5
  have HK3 := Lib.hid K3
  have HK4 := Lib.hid K4
  clear K4 K5 hb1 hb2 hba HA K3
  go_region_with (first
    | (go_at_call 79; refine (HL.out _).mono ?_; rintro r w2 ⟨rfl, hb2, hbx⟩; obtain ⟨⟨t00, t01, t02, t03⟩, -, tl⟩ := four_c (heap_below hb2 x4 HK4.out))
    | (go_at_call 78; refine (HT.out _ _).mono ?_; rintro r w3 ⟨rfl, rfl⟩)
    | (go_at_call 60; refine (HG.out V w2 HK3.out ⟨hb2.os, hb2.tape, hb2.output, hb2.size, hb2.block⟩ hbx).mono ?_; rintro r w4 ⟨v, rfl, hown, hb4⟩))
  all_goals
    go_wp2
    go_ret2
    exact ⟨v, rfl, World.ownsRow.mono hown HK3.out.size, HK3.out.trans (hb4.mono HK3.out.size)⟩

end Go.Proofs.YtoncdnelacolaaaGreatDoor.Ar
