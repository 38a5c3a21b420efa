/- The document's own Token: its walk. -/
import Derived.Test.YthjnoboceibjjaaGreatDoorWalkAE
namespace Go.Proofs.YthjnoboceibjjaaGreatDoor.Lx
open Go Go.Proofs Go.RowKit Go.Shelf

theorem hasWords (s : ByteArray) (w : World) (B : Nat) (hB : B = w.heap.size) :
    Calls Tryz.prog 63 #[.slice (some ⟨B, 0, none⟩) 30 30, .string s] (w.alloc (.cells (strCellsOf words) 9)) fun e w' => e = .returned (.bool (isWord s)) ∧ w.alloc (.cells (strCellsOf words) 9) = w' :=
  has_any words B s _ (by decide) (fun j hj => by rw [hB, cell_new]; exact strCells_at words j hj)

/-- What a word or a number is good for in a walk. -/
theorem word_facts {wd : ByteArray} (h : 0 < wd.size) : wd.toList ≠ [] ∧ wd.toList.isEmpty = false ∧ (wd.toList == []) = false := by
  have hte : wd.toList ≠ [] := fun e => by have := empty_list' e; omega
  exact ⟨hte, by simp [hte], by simp [hte]⟩

set_option maxRecDepth 100000 in
set_option maxHeartbeats 4000000 in
theorem token_small (s : ByteArray) (a : Nat) (w : World) (hs : s.size ≤ 100000) (ha : a < s.size) (h4 : cls (bt s a) = 4) :
    Calls Tryz.prog 50 #[.string s, .int .i64 (a : Int)] w (TokenP s a w) := by
  obtain ⟨hp, hlt, hb0, he, htk⟩ := piece_word ha (.inl h4)
  have hle := runEnd_le (p := aln) (Nat.le_of_lt ha)
  have hrun := fun W => refRun_any s a W hs (by omega)
  have hsz : 0 < (s.extract a (runEnd aln s a)).size := by simp; omega
  have hszl : (s.extract a (runEnd aln s a)).size ≤ 100000 := by simp; omega
  generalize s.extract a (runEnd aln s a) = wd at *
  obtain ⟨e1, e2, e3⟩ := word_facts hsz
  have hsm := fun W => isSmall_any _ (UInt8.toNat_lt wd[0]) W
  rw [decide_eq_true (by rw [bt_eq wd 0 hsz, hb0, h4])] at hsm
  have Hrun := Lib.hid hrun
  have Hsm := Lib.hid hsm
  have hko : kindOf wd = (if isWord wd = true then (3, 0) else if wd.size ≤ 12 then (1, 0) else (0, 4)) := by
    unfold kindOf; rw [hb0, if_neg (by omega), if_pos h4]
  rw [hko] at he htk
  have hhw := fun W B hB => hasWords wd W B hB
  clear hrun hsm hb0 hko hp hlt hle
  cases hw : isWord wd with
  | true =>
    rw [hw] at hhw he htk
    rw [if_pos rfl] at he htk
    have Hhw := Lib.hid hhw
    have He := Lib.hid he
    have Htk := Lib.hid htk
    clear hhw he htk hw h4
    go_enter Tryz.func50, Tryz.ntmps50
    go_wp2_with (first
      | (go_at_call 61; refine (Hrun.out _).mono ?_; rintro e w' ⟨rfl, rfl⟩)
      | (go_at_call 62; refine (Hsm.out _).mono ?_; rintro e w' ⟨rfl, rfl⟩)
      | (go_at_call 64; refine (keywords_cells _).mono ?_; rintro e w' ⟨rfl, rfl⟩)
      | (go_at_call 63; refine (Hhw.out _ _ (by simp)).mono ?_; rintro e w' ⟨rfl, rfl⟩))
    refine bodyPost_ret (v := .tuple #[tkVals ⟨3, wd, a⟩, .int .i64 0]) (by simp [results, Tryz.results50, go_sem, tkVals]) rfl (TokenP.good He.out Htk.out ?_)
    go_grown
  | false =>
    rw [hw] at hhw he htk
    rw [if_neg (by decide)] at he htk
    have Hhw := Lib.hid hhw
    by_cases h12 : wd.size ≤ 12
    · rw [if_pos h12] at he htk
      have He := Lib.hid he
      have Htk := Lib.hid htk
      clear hhw he htk hw h4
      go_enter Tryz.func50, Tryz.ntmps50
      go_wp2_with (first
        | (go_at_call 61; refine (Hrun.out _).mono ?_; rintro e w' ⟨rfl, rfl⟩)
        | (go_at_call 62; refine (Hsm.out _).mono ?_; rintro e w' ⟨rfl, rfl⟩)
        | (go_at_call 64; refine (keywords_cells _).mono ?_; rintro e w' ⟨rfl, rfl⟩)
        | (go_at_call 63; refine (Hhw.out _ _ (by simp)).mono ?_; rintro e w' ⟨rfl, rfl⟩))
      refine bodyPost_ret (v := .tuple #[tkVals ⟨1, wd, a⟩, .int .i64 0]) (by simp [results, Tryz.results50, go_sem, tkVals]) rfl (TokenP.good He.out Htk.out ?_)
      go_grown
    · rw [if_neg h12] at he
      have He := Lib.hid he
      clear hhw he htk hw h4
      go_enter Tryz.func50, Tryz.ntmps50
      go_wp2_with (first
        | (go_at_call 61; refine (Hrun.out _).mono ?_; rintro e w' ⟨rfl, rfl⟩)
        | (go_at_call 62; refine (Hsm.out _).mono ?_; rintro e w' ⟨rfl, rfl⟩)
        | (go_at_call 64; refine (keywords_cells _).mono ?_; rintro e w' ⟨rfl, rfl⟩)
        | (go_at_call 63; refine (Hhw.out _ _ (by simp)).mono ?_; rintro e w' ⟨rfl, rfl⟩))
      refine bodyPost_ret (v := .tuple #[.agg #[.int .u8 0, .string ⟨#[]⟩, .int .i64 0], .int .i64 4]) (by simp [results, Tryz.results50, go_sem]) rfl (TokenP.bad He.out rfl (by decide) ?_)
      go_grown

set_option maxRecDepth 100000 in
set_option maxHeartbeats 4000000 in
theorem token_digit (s : ByteArray) (a : Nat) (w : World) (hs : s.size ≤ 100000) (ha : a < s.size) (h6 : cls (bt s a) = 6) :
    Calls Tryz.prog 50 #[.string s, .int .i64 (a : Int)] w (TokenP s a w) := by
  obtain ⟨hp, hlt, hb0, he, htk⟩ := piece_word ha (.inr h6)
  have hle := runEnd_le (p := aln) (Nat.le_of_lt ha)
  have hrun := fun W => refRun_any s a W hs (by omega)
  have hsz : 0 < (s.extract a (runEnd aln s a)).size := by simp; omega
  have hszl : (s.extract a (runEnd aln s a)).size ≤ 100000 := by simp; omega
  generalize s.extract a (runEnd aln s a) = wd at *
  obtain ⟨e1, e2, e3⟩ := word_facts hsz
  have hsm := fun W => isSmall_any _ (UInt8.toNat_lt wd[0]) W
  rw [decide_eq_false (by rw [bt_eq wd 0 hsz, hb0]; omega)] at hsm
  have hdg := fun W => isDigit_any _ (UInt8.toNat_lt wd[0]) W
  rw [decide_eq_true (by rw [bt_eq wd 0 hsz, hb0, h6])] at hdg
  have hnu := fun W => refNumberError_any wd W hszl
  have Hrun := Lib.hid hrun
  have Hsm := Lib.hid hsm
  have Hdg := Lib.hid hdg
  have hko : kindOf wd = (2, numErr wd) := by
    unfold kindOf; rw [hb0, if_neg (by omega), if_neg (by omega), if_pos h6]
  rw [hko] at he htk
  dsimp only at he htk
  generalize numErr wd = ne at he hnu
  have Hnu := Lib.hid hnu
  have Htk := Lib.hid htk
  clear hrun hsm hdg hnu hb0 hko hp hlt hle htk
  by_cases h0 : ne = 0
  · subst h0
    have He := Lib.hid he
    clear he h6
    go_enter Tryz.func50, Tryz.ntmps50
    go_wp2_with (first
      | (go_at_call 61; refine (Hrun.out _).mono ?_; rintro e w' ⟨rfl, rfl⟩)
      | (go_at_call 62; refine (Hsm.out _).mono ?_; rintro e w' ⟨rfl, rfl⟩)
      | (go_at_call 65; refine (Hdg.out _).mono ?_; rintro e w' ⟨rfl, rfl⟩)
      | (go_at_call 66; refine (Hnu.out _).mono ?_; rintro e w' ⟨rfl, rfl⟩))
    refine bodyPost_ret (v := .tuple #[tkVals ⟨2, wd, a⟩, .int .i64 0]) (by simp [results, Tryz.results50, go_sem, tkVals]) rfl (TokenP.good He.out Htk.out ?_)
    go_grown
  · have ht3 : ((ne : Int) != 0) = true := by simp; omega
    have He := Lib.hid he
    have H0 := Lib.hid h0
    clear he h6 h0
    go_enter Tryz.func50, Tryz.ntmps50
    go_wp2_with (first
      | (go_at_call 61; refine (Hrun.out _).mono ?_; rintro e w' ⟨rfl, rfl⟩)
      | (go_at_call 62; refine (Hsm.out _).mono ?_; rintro e w' ⟨rfl, rfl⟩)
      | (go_at_call 65; refine (Hdg.out _).mono ?_; rintro e w' ⟨rfl, rfl⟩)
      | (go_at_call 66; refine (Hnu.out _).mono ?_; rintro e w' ⟨rfl, rfl⟩))
    refine bodyPost_ret (v := .tuple #[.agg #[.int .u8 0, .string ⟨#[]⟩, .int .i64 0], .int .i64 (ne : Int)]) (by simp [results, Tryz.results50, go_sem]) rfl (TokenP.bad He.out rfl H0.out ?_)
    go_grown

theorem sg_len (k : Nat) : (sgL.getD k []).length ≤ 1000 := by
  rcases Nat.lt_or_ge k 16 with h | h
  · have : ∀ k : Fin 16, (sgL.getD k.val []).length ≤ 1000 := by decide
    exact this ⟨k, h⟩
  · rw [List.getD_eq_getElem?_getD, List.getElem?_eq_none (by show 16 ≤ k; exact h)]; decide
/-- What letters and digits begin with, where no word and no number does. -/
theorem other_run {s : ByteArray} {a : Nat} (ha : a < s.size) (h4 : cls (bt s a) ≠ 4) (h6 : cls (bt s a) ≠ 6) :
    (s.extract a (runEnd aln s a)).size = 0 ∨ (0 < (s.extract a (runEnd aln s a)).size ∧ cls (bt (s.extract a (runEnd aln s a)) 0) ≠ 4 ∧ cls (bt (s.extract a (runEnd aln s a)) 0) ≠ 6) := by
  by_cases h5 : aln (bt s a) = true
  · have h1 := runEnd_step ha h5
    have h2 := le_runEnd aln s (a + 1)
    have h3 := runEnd_le (p := aln) (Nat.le_of_lt ha)
    have hb : bt (s.extract a (runEnd aln s a)) 0 = bt s a := by rw [bt_extract (by omega)]; rfl
    refine .inr ⟨by simp; omega, by rw [hb]; exact h4, by rw [hb]; exact h6⟩
  · have h1 := runEnd_stop (p := aln) (s := s) (a := a) (.inr (by simpa using h5))
    refine .inl (by rw [h1]; simp)

set_option maxRecDepth 100000 in
set_option maxHeartbeats 4000000 in
theorem token_other (s : ByteArray) (a : Nat) (w : World) (hs : s.size ≤ 100000) (ha : a < s.size) (h4 : cls (bt s a) ≠ 4) (h6 : cls (bt s a) ≠ 6) :
    Calls Tryz.prog 50 #[.string s, .int .i64 (a : Int)] w (TokenP s a w) := by
  have hrun := fun W => refRun_any s a W hs (by omega)
  have Hfound := Lib.hid (fun k hk hb hn => sign_found (s := s) (a := a) (k := k) ha hk hb hn)
  have Hnone := Lib.hid (fun hn => sign_none (s := s) (a := a) ha h4 h6 hn)
  have hot := other_run ha h4 h6
  generalize s.extract a (runEnd aln s a) = wd at hrun hot
  have Hrun := Lib.hid hrun
  clear hrun h4 h6
  rcases hot with hz | ⟨hsz, n4, n6⟩
  · have e0 : wd.toList = [] := empty_list hz
    clear hz
    go_enter Tryz.func50, Tryz.ntmps50
    go_wp2_with (first
      | (go_at_call 61; refine (Hrun.out _).mono ?_; rintro e w' ⟨rfl, rfl⟩)
      | (go_at_call 67; refine (signs_cells _).mono ?_; rintro e w' ⟨rfl, rfl⟩))
    go_loop [9] (fun i => ∃ k : Nat, k ≤ 16 ∧ i = .int .i64 k ∧ ∀ j, j < k → begins s a (sgL.getD j []) = false) (fun i => 16 - (intOf i).toNat)
    case atStart => exact ⟨0, by omega, rfl, fun j h => absurd h (by omega)⟩
    case round =>
      obtain ⟨k, hk, rfl, hn⟩ := hrel
      have Hn := Lib.hid hn
      clear hn
      by_cases hlt : k < 16
      · have hcell : (strCellsOf sgL)[k]? = some (.string (bStr (sgL.getD k []))) := strCells_at sgL k hlt
        have hcell2 : ((w.alloc (.cells #[.int .u8 0, .string ⟨#[]⟩, .int .i64 0] 33)).alloc (.cells (strCellsOf sgL) 9)).cell? ⟨w.heap.size + 1, k, none⟩ = some (.string (bStr (sgL.getD k []))) := by
          rw [← alloc_sz w, cell_new]; exact hcell
        have hba := fun W => beginsAt_any s a (sgL.getD k []) W hs (by omega) (sg_len k)
        have Hf := Lib.hid (Hfound.out k hlt)
        have Hst := Lib.hid (show ∀ (h : begins s a (sgL.getD k []) = false) j, j < k + 1 → begins s a (sgL.getD j []) = false from fun h j hj => by
          rcases Nat.lt_succ_iff_lt_or_eq.1 hj with h2 | rfl
          · exact Hn.out j h2
          · exact h)
        generalize sgL.getD k [] = t at hcell hcell2 hba Hf Hst
        cases hb : begins s a t with
        | true =>
          rw [hb] at hba
          obtain ⟨z1, z2⟩ := Hf.out hb Hn.out
          have Hba := Lib.hid hba
          have Z1 := Lib.hid z1
          have Z2 := Lib.hid z2
          clear hba z1 z2 hb
          go_wp2_with (go_at_call 68; refine (Hba.out _).mono ?_; rintro e w' ⟨rfl, rfl⟩)
          refine bodyPost_ret (v := .tuple #[tkVals ⟨4, bStr t, a⟩, .int .i64 0]) (by simp [results, Tryz.results50, go_sem, tkVals]) rfl (TokenP.good Z1.out Z2.out ?_)
          go_grown
        | false =>
          rw [hb] at hba
          have Hba := Lib.hid hba
          have Hb := Lib.hid hb
          clear hba hb
          go_wp2_with (go_at_call 68; refine (Hba.out _).mono ?_; rintro e w' ⟨rfl, rfl⟩)
          go_round
          case rel => exact ⟨k + 1, by omega, by go_num, Hst.out Hb.out⟩
          case measure => simp [intOf]; omega
      · have Hz := Lib.hid (Hnone.out (fun j hj => Hn.out j (by omega)))
        go_wp2
        refine bodyPost_ret (v := .tuple #[.agg #[.int .u8 0, .string ⟨#[]⟩, .int .i64 0], .int .i64 4]) (by simp [results, Tryz.results50, go_sem]) rfl (TokenP.bad Hz.out rfl (by decide) ?_)
        go_grown
  · obtain ⟨e1, e2, e3⟩ := word_facts hsz
    have hsm := fun W => isSmall_any _ (UInt8.toNat_lt wd[0]) W
    rw [decide_eq_false (by rw [bt_eq wd 0 hsz]; omega)] at hsm
    have hdg := fun W => isDigit_any _ (UInt8.toNat_lt wd[0]) W
    rw [decide_eq_false (by rw [bt_eq wd 0 hsz]; omega)] at hdg
    have Hsm := Lib.hid hsm
    have Hdg := Lib.hid hdg
    clear hsm hdg n4 n6
    go_enter Tryz.func50, Tryz.ntmps50
    go_wp2_with (first
      | (go_at_call 61; refine (Hrun.out _).mono ?_; rintro e w' ⟨rfl, rfl⟩)
      | (go_at_call 62; refine (Hsm.out _).mono ?_; rintro e w' ⟨rfl, rfl⟩)
      | (go_at_call 65; refine (Hdg.out _).mono ?_; rintro e w' ⟨rfl, rfl⟩)
      | (go_at_call 67; refine (signs_cells _).mono ?_; rintro e w' ⟨rfl, rfl⟩))
    go_loop [9] (fun i => ∃ k : Nat, k ≤ 16 ∧ i = .int .i64 k ∧ ∀ j, j < k → begins s a (sgL.getD j []) = false) (fun i => 16 - (intOf i).toNat)
    case atStart => exact ⟨0, by omega, rfl, fun j h => absurd h (by omega)⟩
    case round =>
      obtain ⟨k, hk, rfl, hn⟩ := hrel
      have Hn := Lib.hid hn
      clear hn
      by_cases hlt : k < 16
      · have hcell : (strCellsOf sgL)[k]? = some (.string (bStr (sgL.getD k []))) := strCells_at sgL k hlt
        have hcell2 : ((w.alloc (.cells #[.int .u8 0, .string ⟨#[]⟩, .int .i64 0] 33)).alloc (.cells (strCellsOf sgL) 9)).cell? ⟨w.heap.size + 1, k, none⟩ = some (.string (bStr (sgL.getD k []))) := by
          rw [← alloc_sz w, cell_new]; exact hcell
        have hba := fun W => beginsAt_any s a (sgL.getD k []) W hs (by omega) (sg_len k)
        have Hf := Lib.hid (Hfound.out k hlt)
        have Hst := Lib.hid (show ∀ (h : begins s a (sgL.getD k []) = false) j, j < k + 1 → begins s a (sgL.getD j []) = false from fun h j hj => by
          rcases Nat.lt_succ_iff_lt_or_eq.1 hj with h2 | rfl
          · exact Hn.out j h2
          · exact h)
        generalize sgL.getD k [] = t at hcell hcell2 hba Hf Hst
        cases hb : begins s a t with
        | true =>
          rw [hb] at hba
          obtain ⟨z1, z2⟩ := Hf.out hb Hn.out
          have Hba := Lib.hid hba
          have Z1 := Lib.hid z1
          have Z2 := Lib.hid z2
          clear hba z1 z2 hb
          go_wp2_with (go_at_call 68; refine (Hba.out _).mono ?_; rintro e w' ⟨rfl, rfl⟩)
          refine bodyPost_ret (v := .tuple #[tkVals ⟨4, bStr t, a⟩, .int .i64 0]) (by simp [results, Tryz.results50, go_sem, tkVals]) rfl (TokenP.good Z1.out Z2.out ?_)
          go_grown
        | false =>
          rw [hb] at hba
          have Hba := Lib.hid hba
          have Hb := Lib.hid hb
          clear hba hb
          go_wp2_with (go_at_call 68; refine (Hba.out _).mono ?_; rintro e w' ⟨rfl, rfl⟩)
          go_round
          case rel => exact ⟨k + 1, by omega, by go_num, Hst.out Hb.out⟩
          case measure => simp [intOf]; omega
      · have Hz := Lib.hid (Hnone.out (fun j hj => Hn.out j (by omega)))
        go_wp2
        refine bodyPost_ret (v := .tuple #[.agg #[.int .u8 0, .string ⟨#[]⟩, .int .i64 0], .int .i64 4]) (by simp [results, Tryz.results50, go_sem]) rfl (TokenP.bad Hz.out rfl (by decide) ?_)
        go_grown

theorem token_any (s : ByteArray) (a : Nat) (w : World) (hs : s.size ≤ 100000) (ha : a < s.size) :
    Calls Tryz.prog 50 #[.string s, .int .i64 (a : Int)] w (TokenP s a w) := by
  by_cases h4 : cls (bt s a) = 4
  · exact token_small s a w hs ha h4
  · by_cases h6 : cls (bt s a) = 6
    · exact token_digit s a w hs ha h6
    · exact token_other s a w hs ha h4 h6

end Go.Proofs.YthjnoboceibjjaaGreatDoor.Lx
