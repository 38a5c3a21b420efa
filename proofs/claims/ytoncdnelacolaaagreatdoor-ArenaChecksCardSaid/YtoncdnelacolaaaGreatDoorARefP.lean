/- The reference: All. -/
import Derived.Test.YtoncdnelacolaaaGreatDoorARefO
import Derived.Laws.AppendOwnNone
namespace Go.Proofs.YtoncdnelacolaaaGreatDoor.Ar
open Go Go.Proofs Go.RowKit Go.Sort Lx Ps

/-- The moves of a place with two numbers. -/
def atM (a : Ar) (id arg : Int) : List Mv := questA a id arg ++ toldA a id arg 1
def rowM (a : Ar) (n j : Nat) : List Mv := (List.range j).flatMap fun (k : Nat) => atM a (n : Int) (k : Int)
def preM (a : Ar) (n : Nat) : List Mv := (List.range n).flatMap fun (k : Nat) => rowM a k 6
theorem rowM_succ (a : Ar) (n j : Nat) : rowM a n (j + 1) = rowM a n j ++ atM a (n : Int) (j : Int) := by unfold rowM; rw [List.range_succ, List.flatMap_append, List.flatMap_singleton]
theorem preM_succ (a : Ar) (n : Nat) : preM a (n + 1) = preM a n ++ rowM a n 6 := by unfold preM; rw [List.range_succ, List.flatMap_append, List.flatMap_singleton]
theorem flat_get {α β : Type} (F : α → List β) : ∀ (l : List α) (n : Nat), l.length ≤ n → (List.range n).flatMap (fun k => ((l[k]?).map F).getD []) = l.flatMap F
  | [], n, _ => by rw [List.flatMap_eq_nil_iff.2]; · rfl
                   · intro k _; simp
  | x :: r, 0, h => by simp at h
  | x :: r, n + 1, h => by
    rw [List.range_succ_eq_map, List.flatMap_cons, List.flatMap_map, List.flatMap_cons]
    congr 1
    exact flat_get F r n (by simpa using h)
theorem atM_row (a : Ar) (n k : Nat) : atM a (n : Int) (k : Int) = (((rowL a n)[k]?).map movesP).getD [] := by
  have h : plAt a (n : Int) (k : Int) = (rowL a n)[k]? := by unfold plAt; rw [if_neg (by omega), Int.toNat_natCast, Int.toNat_natCast]
  unfold atM questA toldA
  rw [h]
  cases (rowL a n)[k]? with
  | none => rfl
  | some p => simp only [told_one]; rfl
theorem rowL_len {a : Ar} (hR : Right a) (n : Nat) : (rowL a n).length ≤ 6 := by
  unfold rowL
  split
  · simp
  · split
    · simp
    · rename_i t ht
      have := hR.params t (List.mem_of_getElem? ht)
      simp [paramsFrom_length]; omega
theorem preM_all {a : Ar} (hR : Right a) : preM a (a.ids.length + 1) = allM a := by
  unfold preM allM placesL
  rw [List.flatMap_assoc]
  congr 1
  funext n
  unfold rowM
  rw [show (fun k : Nat => atM a (n : Int) (k : Int)) = fun k => (((rowL a n)[k]?).map movesP).getD [] from funext fun k => atM_row a n k]
  exact flat_get movesP _ _ (rowL_len hR n)
theorem wp_append_row {w : World} {o : Oper} {a : Act} {K : Act → World → Prop} {Q : Exit → Act → World → Prop} (s x : Operand) (ho : o.op = .call { callee := .builtin .append, args := #[s, x], argTypes := #[32, 32] })
    (base B2 : Nat) (v : Value) (n : Nat) (xs : List Value) (hs : a.eval s = v) (hown : w.ownsRow base 40 4 v n xs) (u : Value) (l : List Mv) (hx : a.eval x = u) (hu : w.ownsRow B2 40 4 u l.length (mvCells l))
    (hn : n + l.length ≤ 1000000) (hbase : base ≤ w.heap.size)
    (h : ∀ v' w', w'.ownsRow base 40 4 v' (n + l.length) (xs ++ mvCells l) → w.grownBy w' v.ownBlock → K (a.put o.dst v') w') : o.wp Tryz.prog a w K Q := by
  obtain ⟨i0, hii, hz0, hz1, hz2⟩ := info_parts mv_info
  by_cases h0 : 0 < l.length
  · obtain ⟨g, cap, rfl, hnews⟩ := own_some hu h0
    refine wp_append_own w s x 32 ho base 40 i0 _ 4 32 Tryz.underlying32 hii hz0 hz1 hz2 rfl (by decide) v n xs hs hown ⟨g, 0, none⟩ l.length cap (mvCells l) hx (mvCells_len l) hnews (mvs_one l) (by unfold maxLen; omega) (by omega) hbase fun v' w' h1 h2 _ => h v' w' h1 h2
  · obtain rfl : l = [] := List.length_eq_zero_iff.1 (by omega)
    rcases hu.2 with ⟨rfl, _⟩ | ⟨g, cap, cur, rfl, _⟩
    · have hrun := run_append_owned_none (P := Tryz.prog) (w := w) base 32 o.type 40 i0 4 Tryz.underlying32 hii v n xs hown
      unfold Oper.wp
      simp [execOp, ho, resolve, invoke, builtin, hs, hx, hrun, Result.andThen]
      exact h v w (by simpa [mvCells] using hown) ⟨rfl, rfl, rfl, Nat.le_refl _, fun _ _ _ => rfl⟩
    · refine wp_append_own w s x 32 ho base 40 i0 _ 4 32 Tryz.underlying32 hii hz0 hz1 hz2 rfl (by decide) v n xs hs hown ⟨g, 0, none⟩ 0 cap [] hx rfl (fun j u hj => by simp at hj) (fun u hu => by cases hu) (by unfold maxLen; simp at hn; omega) (by simp at hn; omega) hbase fun v' w' h1 h2 _ => h v' w' h1 h2

set_option maxRecDepth 100000 in
set_option maxHeartbeats 2000000 in
theorem refAll_any (ids : Value) (a : Ar) (w : World) (hin : ArIn w ids a) (hR : Right a) :
    Calls Tryz.prog 64 #[arV ids a] w fun e w' => ∃ v, e = .returned v ∧ w'.ownsRow w.heap.size 40 4 v (allM a).length (mvCells (allM a)) ∧ Below w.heap.size w w' := by
  have hQ := fun (n j : Nat) W (hb : Below w.heap.size w W) => refQuestions_any ids a (n : Int) (j : Int) W (hin.below hb) (fun p hp => plAt_right hR hp)
  have hT := fun (n j : Nat) W (hb : Below w.heap.size w W) => refTold_any ids a (n : Int) (j : Int) 1 W (hin.below hb) (fun p hp => plAt_right hR hp)
  have hq := fun (n j : Nat) => questA_len hR (n : Int) (j : Int)
  have ht := fun (n j : Nat) => toldA_len hR (n : Int) (j : Int) 1
  have hlen := hR.ids
  have HALL := Lib.hid (preM_all hR)
  obtain ⟨i0, hii, hz0, hz1, hz2⟩ := info_parts mv_info
  obtain ⟨A, cap, rfl, -⟩ := hin.sl
  clear hin hR
  have HQ := Lib.hid hQ
  have HT := Lib.hid hT
  have HQL := Lib.hid hq
  have HTL := Lib.hid ht
  clear hQ hT hq ht
  have k0 := heap_alloc_new w (.cells #[.slice A a.ids.length cap, .bool a.root.cell, .int .i64 a.root.n, .bool a.jumps] 26)
  have hb0 : Below w.heap.size w (w.alloc (.cells #[.slice A a.ids.length cap, .bool a.root.cell, .int .i64 a.root.n, .bool a.jumps] 26)) := (Below.refl _ _).alloc (Nat.le_refl _) _
  have hsz0 : (w.alloc (.cells #[.slice A a.ids.length cap, .bool a.root.cell, .int .i64 a.root.n, .bool a.jumps] 26)).heap.size = w.heap.size + 1 := by simp
  unfold arV at *
  go_enter Tryz.func64, Tryz.ntmps64
  go_upto_region 1 with (fail)
  generalize w.alloc (.cells #[.slice A a.ids.length cap, .bool a.root.cell, .int .i64 a.root.n, .bool a.jumps] 26) = V at k0 hb0 hsz0 ⊢
  have HK0 := Lib.hid k0
  clear k0
  go_wp2
  go_loopw [3, 4] (fun u c wr => ∃ (n : Nat) (L : List Mv), n ≤ a.ids.length + 1 ∧ c = .int .i64 (n : Int) ∧ L = preM a n ∧ L.length ≤ n * 12000 ∧ wr.ownsRow (w.heap.size + 1) 40 4 u L.length (mvCells L) ∧ Below w.heap.size w wr ∧ w.heap.size + 1 ≤ wr.heap.size ∧ wr.heap[w.heap.size]? = some (.cells #[.slice A a.ids.length cap, .bool a.root.cell, .int .i64 a.root.n, .bool a.jumps] 26 (0, 0))) (fun _ c _ => a.ids.length + 1 - (intOf c).toNat)
  case atStart => exact ⟨0, [], Nat.zero_le _, rfl, rfl, Nat.zero_le _, World.ownsRow_nil _ _ _ _, hb0, by omega, HK0.out⟩
  case round =>
    clear hb0 HK0 hsz0
    obtain ⟨n, L, hn, rfl, hLe, hLl, hown, hb, hsr, hr0⟩ := hrel
    obtain ⟨Ao, co, rfl⟩ := own_slice hown
    have HO := Lib.hid hown
    have HLE := Lib.hid hLe
    have HR0 := Lib.hid hr0
    obtain ⟨⟨r0, r1, r2, r3⟩, -, -⟩ := four_c hr0
    clear hown hLe hr0
    by_cases hlt : n < a.ids.length + 1
    · have hlt' : (n : Int) ≤ (a.ids.length : Int) := by omega
      go_wp2
      go_loopw [3, 5] (fun u c wx => ∃ (j : Nat) (M : List Mv), j ≤ 6 ∧ c = .int .i64 (j : Int) ∧ M = L ++ rowM a n j ∧ M.length ≤ L.length + j * 2000 ∧ wx.ownsRow (w.heap.size + 1) 40 4 u M.length (mvCells M) ∧ Below w.heap.size w wx ∧ w.heap.size + 1 ≤ wx.heap.size ∧ wx.heap[w.heap.size]? = some (.cells #[.slice A a.ids.length cap, .bool a.root.cell, .int .i64 a.root.n, .bool a.jumps] 26 (0, 0))) (fun _ c _ => 6 - (intOf c).toNat)
      case atStart => exact ⟨0, L, by omega, rfl, (List.append_nil _).symm, by omega, HO.out, hb, hsr, HR0.out⟩
      case round =>
        clear r0 r1 r2 r3 hb hsr HO HR0
        obtain ⟨j, M, hj, rfl, hMe, hMl, hown, hb, hsr, hr0⟩ := hrel
        obtain ⟨Ao, co, rfl⟩ := own_slice hown
        have HO := Lib.hid hown
        have HME := Lib.hid hMe
        have HR0 := Lib.hid hr0
        obtain ⟨⟨r0, r1, r2, r3⟩, -, -⟩ := four_c hr0
        have hl0 := (Array.getElem?_eq_some_iff.1 hr0).1
        clear hown hMe hr0
        by_cases hj6 : j < 6
        · have hj' : (j : Int) ≤ 5 := by omega
          have hql := HQL.out n j
          have htl := HTL.out n j
          have HSTEP := Lib.hid (show rowM a n (j + 1) = rowM a n j ++ (questA a (n : Int) (j : Int) ++ toldA a (n : Int) (j : Int) 1) from rowM_succ a n j)
          · have hqj := HQ.out n j
            have htj := HT.out n j
            generalize questA a (n : Int) (j : Int) = Q at *
            generalize toldA a (n : Int) (j : Int) 1 = T at *
            have HQJ := Lib.hid hqj
            have HTJ := Lib.hid htj
            clear hqj htj
            go_upto_region 8 with (fail)
            refine wp_region_chain (fun w' => w'.cell? ⟨w.heap.size, 0, none⟩ = some (.slice A a.ids.length cap) ∧ w'.cell? ⟨w.heap.size, 1, none⟩ = some (.bool a.root.cell) ∧ w'.cell? ⟨w.heap.size, 2, none⟩ = some (.int .i64 a.root.n) ∧ w'.cell? ⟨w.heap.size, 3, none⟩ = some (.bool a.jumps)) [(true, 0), (true, 1), (true, 2), (true, 3), (true, 6), (true, 7), (true, 8), (false, 4), (false, 5), (false, 9), (false, 10), (true, 11)] (by kernel_rfl) (by kernel_rfl) (by kernel_rfl) (by kernel_rfl) (by intro d v c a w h; cases d <;> exact h) ⟨r0, r1, r2, r3⟩ ?_
            simp only [chainOps, List.filterMap_cons, List.filterMap_nil, List.getElem?_toArray, List.getElem?_cons_zero, List.getElem?_cons_succ, Option.map_some]
            repeat (first
              | (refine chain_skip (by rfl) ?_
                 try simp only [Act.put, List.setIfInBounds_toArray, List.set_cons_zero, List.set_cons_succ])
              | (apply chain_take (by rfl)
                 · (intro w' hSw; (try dsimp only at hSw); go_simp; try with_reducible rfl)
                 try simp only [Act.put, List.setIfInBounds_toArray, List.set_cons_zero, List.set_cons_succ]))
            refine chain_act (fun K hK => ?_)
            go_simp
            go_at_call 86; refine (HQJ.out _ (by first | exact hb | exact hb.drew)).mono ?_; rintro e w1 ⟨vq, rfl, hownq, hb8⟩
            have hb1 : Below wr.heap.size wr w1 := ⟨hb8.os, hb8.tape, hb8.output, hb8.size, hb8.block⟩
            obtain ⟨Aq, capq, rfl⟩ := own_slice hownq
            have s1 := hb1.size
            have m1 := heap_below hb1 hl0 HR0.out
            obtain ⟨⟨p0, p1, p2, p3⟩, -, -⟩ := four_c m1
            refine hK.out _ _ ⟨p0, p1, p2, p3⟩ ?_
            clear hK K
            try simp only [Act.put, List.setIfInBounds_toArray, List.set_cons_zero, List.set_cons_succ]
            refine chain_act (fun K hK => ?_)
            rw [if_pos (by rfl)]
            refine wp_append_row _ _ rfl (w.heap.size + 1) _ _ _ _ rfl (own_below HO.out hb1) _ Q rfl hownq (by omega) (by omega) ?_
            intro v2 w2 hown2 hg2
            have hf2 : ∀ b : Nat, b < w.heap.size + 1 → some b ≠ (Value.slice Ao M.length co).ownBlock := fun b hlt e => by have := (own_block HO.out e.symm).1; omega
            have s2 := hg2.size
            have m2 : w2.heap[w.heap.size]? = _ := (hg2.block _ (by omega) (hf2 _ (by omega))).trans m1
            obtain ⟨⟨q0, q1, q2, q3⟩, -, -⟩ := four_c m2
            have hbB : Below w.heap.size w w2 := (hb.trans (hb1.mono hb.size)).grown hg2 (by omega) (fun jj e => by have := (own_block HO.out e).1; omega)
            refine hK.out _ _ ⟨q0, q1, q2, q3⟩ ?_
            obtain ⟨A2, c2, rfl⟩ := own_slice hown2
            clear hK K
            try simp only [Act.put, List.setIfInBounds_toArray, List.set_cons_zero, List.set_cons_succ]
            refine chain_act (fun K hK => ?_)
            go_simp
            go_at_call 84; refine (HTJ.out _ hbB).mono ?_; rintro e w3 ⟨vt, rfl, hownt, hb3⟩
            obtain ⟨At, capt, rfl⟩ := own_slice hownt
            have s3 := hb3.size
            have m3 := heap_below hb3 (by omega) m2
            obtain ⟨⟨t0, t1, t2, t3⟩, -, -⟩ := four_c m3
            refine hK.out _ _ ⟨t0, t1, t2, t3⟩ ?_
            clear hK K
            try simp only [Act.put, List.setIfInBounds_toArray, List.set_cons_zero, List.set_cons_succ]
            refine chain_act (fun K hK => ?_)
            rw [if_pos (by rfl)]
            rw [← mvCells_append] at hown2
            refine wp_append_row _ _ rfl (w.heap.size + 1) _ _ _ _ rfl (own_below hown2 hb3) _ T rfl hownt (by omega) (by omega) ?_
            intro v4 w4 hown4 hg4
            have hf4 : ∀ b : Nat, b < w.heap.size + 1 → some b ≠ (Value.slice A2 (M.length + Q.length) c2).ownBlock := fun b hlt e => by have := (own_block hown2 e.symm).1; omega
            have s4 := hg4.size
            have m4 : w4.heap[w.heap.size]? = _ := (hg4.block _ (by omega) (hf4 _ (by omega))).trans m3
            obtain ⟨⟨z0, z1, z2, z3⟩, -, -⟩ := four_c m4
            have hbD : Below w.heap.size w w4 := (hbB.trans (hb3.mono hbB.size)).grown hg4 (by omega) (fun jj e => by have := (own_block hown2 e).1; omega)
            rw [← mvCells_append] at hown4
            refine hK.out _ _ ⟨z0, z1, z2, z3⟩ ?_
            obtain ⟨A4, c4, rfl⟩ := own_slice hown4
            clear hK K
            try simp only [Act.put, List.setIfInBounds_toArray, List.set_cons_zero, List.set_cons_succ]
            repeat (first
              | (refine chain_skip (by rfl) ?_
                 try simp only [Act.put, List.setIfInBounds_toArray, List.set_cons_zero, List.set_cons_succ])
              | (apply chain_take (by rfl)
                 · (intro w' hSw; (try dsimp only at hSw); go_simp; try with_reducible rfl)
                 try simp only [Act.put, List.setIfInBounds_toArray, List.set_cons_zero, List.set_cons_succ]))
            refine chain_nil ?_
            go_wp2
            go_roundw
            case rel => exact ⟨j + 1, (M ++ Q) ++ T, by omega, by go_num, by rw [HSTEP.out, HME.out]; simp only [List.append_assoc], by simp only [List.length_append]; omega, by rw [List.length_append, List.length_append]; exact hown4, hbD, by omega, m4⟩
            case measure => simp [intOf]; omega
        · have hj7 : j = 6 := by omega
          have hj' : ¬ (j : Int) ≤ 5 := by omega
          subst hj7
          go_wp2
          go_roundw
          case rel => exact ⟨n + 1, M, by omega, by go_num, by rw [preM_succ, HME.out, HLE.out], by omega, HO.out, hb, hsr, HR0.out⟩
          case measure => simp [intOf]; omega
    · have hkN : n = a.ids.length + 1 := by omega
      have hlt' : ¬ (n : Int) ≤ (a.ids.length : Int) := by omega
      have HLE2 := Lib.hid (show allM a = L by rw [HLE.out, hkN, HALL.out])
      clear hkN
      go_wp2
      go_ret
      exact ⟨_, rfl, by rw [HLE2.out]; exact World.ownsRow.mono HO.out (by omega), hb⟩

end Go.Proofs.YtoncdnelacolaaaGreatDoor.Ar
