/- The shortest text with some tokens: growTogether, and a Builder's WriteByte. -/
import Derived.Test.YthjnoboceibjjaaGreatDoorWalkAG
import Derived.StillTailTactics
namespace Go.Proofs.YthjnoboceibjjaaGreatDoor.Lx
open Go Go.Proofs Go.RowKit Go.Shelf

theorem tight_last (y x : Tk) : ∀ (l : List Tk), tightL (l ++ [y] ++ [x]) = tightL (l ++ [y]) ++ (if growT y x = true then [32] else []) ++ x.text.data.toList
  | [] => by
    show tightL [y, x] = tightL [y] ++ _ ++ _
    rw [tightL, tightL, tightL]
  | [z] => by
    show tightL (z :: y :: [x]) = tightL (z :: y :: []) ++ _ ++ _
    simp [tightL, List.append_assoc]
  | z :: u :: r => by
    have ih := tight_last y x (u :: r)
    show tightL (z :: u :: (r ++ [y] ++ [x])) = tightL (z :: u :: (r ++ [y])) ++ _ ++ _
    rw [tight_cons, tight_cons, show u :: (r ++ [y] ++ [x]) = u :: r ++ [y] ++ [x] from rfl, ih]
    simp [List.append_assoc]
theorem tight_bound {n : Nat} : ∀ (l : List Tk), (∀ x ∈ l, x.text.size ≤ n) → (tightL l).length ≤ l.length * (n + 1)
  | [], _ => Nat.zero_le _
  | [x], h => by
    have := h x List.mem_cons_self
    rw [tightL, len_list]
    show x.text.size ≤ 1 * (n + 1)
    omega
  | x :: y :: r, h => by
    have h1 := h x List.mem_cons_self
    have h2 := tight_bound (y :: r) (fun z hz => h z (List.mem_cons_of_mem _ hz))
    have h3 : (if growT x y = true then [(32 : UInt8)] else []).length ≤ 1 := by split <;> simp
    rw [tight_cons, List.length_append, List.length_append, len_list, List.length_cons, Nat.add_mul]
    omega
theorem tight_next {l : List Tk} {k : Nat} (hk : k < l.length) (h0 : 0 < k) : tightL (l.take (k + 1)) = tightL (l.take k) ++ (if growT (l[k - 1]'(by omega)) l[k] = true then [32] else []) ++ l[k].text.data.toList := by
  have h1 : l.take (k + 1) = l.take (k - 1) ++ [l[k - 1]'(by omega)] ++ [l[k]] := by
    rw [List.take_succ_eq_append_getElem hk]
    congr 1
    have := List.take_succ_eq_append_getElem (i := k - 1) (l := l) (by omega)
    rw [show k - 1 + 1 = k by omega] at this
    exact this
  have h2 : l.take k = l.take (k - 1) ++ [l[k - 1]'(by omega)] := by
    have := List.take_succ_eq_append_getElem (i := k - 1) (l := l) (by omega)
    rw [show k - 1 + 1 = k by omega] at this
    exact this
  rw [h1, tight_last, ← h2]
theorem tight_first {l : List Tk} (hk : 0 < l.length) : tightL (l.take 1) = tightL (l.take 0) ++ l[0].text.data.toList := by
  cases l with
  | nil => cases hk
  | cons x r => rfl

theorem one_text {s : ByteArray} {c : UInt8} : s.data.toList = [c] ↔ s.toList = [c] := by rw [ByteArray.toList_eq]

set_option maxRecDepth 100000 in
set_option maxHeartbeats 2000000 in
theorem growTogether_any (x y : Tk) (at1 at2 : Int) (w : World) :
    Calls Tryz.prog 17 #[.agg #[.int .u8 (x.kind : Int), .string x.text, .int .i64 at1], .agg #[.int .u8 (y.kind : Int), .string y.text, .int .i64 at2]] w fun e w' => e = .returned (.bool (growT x y)) ∧ Below w.heap.size w w' := by
  have hg : growT x y = ((decide (x.kind ≠ 4) && decide (y.kind ≠ 4)) || (decide (x.text.data.toList = [58]) && decide (y.text.data.toList = [61]))) := rfl
  rw [hg]
  clear hg
  have Hb := Lib.hid (((Below.refl w.heap.size w).alloc (Nat.le_refl _) (.cells #[.int .u8 (x.kind : Int), .string x.text, .int .i64 at1] 33)).alloc (by rw [alloc_sz]; omega) (.cells #[.int .u8 (y.kind : Int), .string y.text, .int .i64 at2] 33))
  have e58 : (⟨#[58]⟩ : ByteArray).toList = [58] := by rw [ByteArray.toList_eq]
  have e61 : (⟨#[61]⟩ : ByteArray).toList = [61] := by rw [ByteArray.toList_eq]
  have step : ∀ b : Bool, ((decide (x.kind ≠ 4) && decide (y.kind ≠ 4)) = true ∧ b = true) ∨ ((decide (x.kind ≠ 4) && decide (y.kind ≠ 4)) = false ∧ b = (decide (x.text.data.toList = [58]) && decide (y.text.data.toList = [61]))) →
      ((decide (x.kind ≠ 4) && decide (y.kind ≠ 4)) || (decide (x.text.data.toList = [58]) && decide (y.text.data.toList = [61]))) = b := by
    intro b h
    rcases h with ⟨h1, h2⟩ | ⟨h1, h2⟩
    · rw [h1, h2]; rfl
    · rw [h1, h2]; rfl
  have Hst := Lib.hid step
  clear step
  have hk : (((x.kind : Int) != 4) = true ∧ ((y.kind : Int) != 4) = true ∧ (decide (x.kind ≠ 4) && decide (y.kind ≠ 4)) = true) ∨ (((x.kind : Int) != 4) = true ∧ ((y.kind : Int) != 4) = false ∧ (decide (x.kind ≠ 4) && decide (y.kind ≠ 4)) = false) ∨ (((x.kind : Int) != 4) = false ∧ (decide (x.kind ≠ 4) && decide (y.kind ≠ 4)) = false) := by
    by_cases h1 : x.kind = 4
    · exact .inr (.inr ⟨by rw [h1]; rfl, by rw [h1]; rfl⟩)
    · by_cases h2 : y.kind = 4
      · exact .inr (.inl ⟨by simp; omega, by rw [h2]; rfl, by rw [h2]; simp⟩)
      · exact .inl ⟨by simp; omega, by simp; omega, by simp [h1, h2]⟩
  have ht : ((x.text.toList == [58]) = true ∧ (y.text.toList == [61]) = true ∧ (decide (x.text.data.toList = [58]) && decide (y.text.data.toList = [61])) = true) ∨ ((x.text.toList == [58]) = true ∧ (y.text.toList == [61]) = false ∧ (decide (x.text.data.toList = [58]) && decide (y.text.data.toList = [61])) = false) ∨ ((x.text.toList == [58]) = false ∧ (decide (x.text.data.toList = [58]) && decide (y.text.data.toList = [61])) = false) := by
    rw [show decide (x.text.data.toList = [58]) = decide (x.text.toList = [58]) from decide_eq_decide.2 one_text, show decide (y.text.data.toList = [61]) = decide (y.text.toList = [61]) from decide_eq_decide.2 one_text]
    by_cases h1 : x.text.toList = [58]
    · by_cases h2 : y.text.toList = [61]
      · exact .inl ⟨by rw [h1]; rfl, by rw [h2]; rfl, by simp [h1, h2]⟩
      · exact .inr (.inl ⟨by rw [h1]; rfl, by simp [h2], by simp [h2]⟩)
    · exact .inr (.inr ⟨by simp [h1], by simp [h1]⟩)
  rcases hk with ⟨k1, k2, k3⟩ | ⟨k1, k2, k3⟩ | ⟨k1, k3⟩
  · rw [Hst.out true (.inl ⟨k3, rfl⟩)]
    clear ht k3
    go_enter Tryz.func17, Tryz.ntmps17
    go_wp2
    repeat (go_quiet (fail); go_wp2)
    go_ret
    exact ⟨rfl, by first | exact Hb.out | exact below_draws Hb.out _⟩
  · rw [Hst.out _ (.inr ⟨k3, rfl⟩)]
    clear k3
    rcases ht with ⟨t1, t2, t3⟩ | ⟨t1, t2, t3⟩ | ⟨t1, t3⟩
    · rw [t3]
      clear t3
      go_enter Tryz.func17, Tryz.ntmps17
      go_wp2
      repeat (go_quiet (fail); go_wp2)
      go_ret
      exact ⟨rfl, by first | exact Hb.out | exact below_draws Hb.out _⟩
    · rw [t3]
      clear t3
      go_enter Tryz.func17, Tryz.ntmps17
      go_wp2
      repeat (go_quiet (fail); go_wp2)
      go_ret
      exact ⟨rfl, by first | exact Hb.out | exact below_draws Hb.out _⟩
    · rw [t3]
      clear t3
      go_enter Tryz.func17, Tryz.ntmps17
      go_wp2
      repeat (go_quiet (fail); go_wp2)
      go_ret
      exact ⟨rfl, by first | exact Hb.out | exact below_draws Hb.out _⟩
  · rw [Hst.out _ (.inr ⟨k3, rfl⟩)]
    clear k3
    rcases ht with ⟨t1, t2, t3⟩ | ⟨t1, t2, t3⟩ | ⟨t1, t3⟩
    · rw [t3]
      clear t3
      go_enter Tryz.func17, Tryz.ntmps17
      go_wp2
      repeat (go_quiet (fail); go_wp2)
      go_ret
      exact ⟨rfl, by first | exact Hb.out | exact below_draws Hb.out _⟩
    · rw [t3]
      clear t3
      go_enter Tryz.func17, Tryz.ntmps17
      go_wp2
      repeat (go_quiet (fail); go_wp2)
      go_ret
      exact ⟨rfl, by first | exact Hb.out | exact below_draws Hb.out _⟩
    · rw [t3]
      clear t3
      go_enter Tryz.func17, Tryz.ntmps17
      go_wp2
      repeat (go_quiet (fail); go_wp2)
      go_ret
      exact ⟨rfl, by first | exact Hb.out | exact below_draws Hb.out _⟩

set_option maxHeartbeats 2000000 in
set_option maxRecDepth 100000 in
theorem writeByte_any (B b : Nat) (bs : List Value) (c : Int) (w : World) (h : Lib.IsBuilder 48 5 B b bs w) (hlen : bs.length + 1 ≤ 140737488355328) (hBw : B ≤ w.heap.size) :
    Calls Tryz.prog 18 #[.pointer (some ⟨b, 0, none⟩), .int .u8 c] w fun e w' => e = .returned .nilIface ∧ (Lib.BuilderAt 48 5 B b (.pointer (some ⟨b, 0, none⟩)) (bs ++ [.int .u8 c]) w' ∧ Below B w w' ∧ Lib.OthersKept 5 (some b) w w') := by
  obtain ⟨i0, hi, hz0, hz1, hz2⟩ := info_parts byte_info
  go_enter Tryz.func18, Tryz.ntmps18
  go_wp2_with (go_at_call 37; refine (copyCheck_any B b bs _ h).mono ?_)
  rintro e w1 ⟨rfl, h1, hb1, hk1⟩
  obtain ⟨hB, v, hbk, hown, hne⟩ := h1
  have c0 : w1.cell? ⟨b, 0, none⟩ = some (.pointer (some ⟨b, 0, none⟩)) := by rw [Lib.cell_of_heap hbk]; rfl
  have c1 : w1.cell? ⟨b, 1, none⟩ = some v := by rw [Lib.cell_of_heap hbk]; rfl
  go_wp2_with (at_builtin; refine wpList_append_own _ rfl _ _ 46 rfl B 5 i0 (.int .u8 0) 1 1 Tryz.underlying46 hi hz0 hz1 hz2 rfl (by decide) _ _ _ rfl (hown.alloc _) ⟨w1.heap.size, 0, none⟩ 1 1 [.int .u8 c] rfl rfl ?c1 ?c2 ?c3 ?c4 ?c5 ?_)
  case c1 =>
    intro j u hj
    match j, hj with
    | 0, hj => simp at hj; subst hj; simp [Addr.add]
  case c2 => intro u hu; simp at hu; subst hu; rfl
  case c3 => unfold maxLen; omega
  case c4 => omega
  case c5 => have := hb1.size; simp; omega
  intro v' w2 hown' hgrow _
  have hlt : b < w1.heap.size := (Array.getElem?_eq_some_iff.1 hbk).1
  have hb2 : w2.heap[b]? = some (.cells #[.pointer (some ⟨b, 0, none⟩), v] 48 (0, 0)) := by
    rw [hgrow.block b (by simp; omega) (fun e => hne e.symm), Lib.alloc_old w1 _ b hlt]
    exact hbk
  have d0 : w2.cell? ⟨b, 0, none⟩ = some (.pointer (some ⟨b, 0, none⟩)) := by rw [Lib.cell_of_heap hb2]; rfl
  have d1 : w2.cell? ⟨b, 1, none⟩ = some v := by rw [Lib.cell_of_heap hb2]; rfl
  have f1 : w2.frozen? ⟨b, 1, none⟩ = false := Lib.frozen_of_heap hb2 1
  obtain ⟨g, cap, rfl⟩ : ∃ g cap, v' = .slice (some ⟨g, 0, none⟩) (bs.length + 1) cap := by
    rcases hown'.2 with ⟨_, h0⟩ | ⟨g, cap, cur, hv, _⟩
    · omega
    · exact ⟨g, cap, hv⟩
  go_wp2
  go_ret
  refine ⟨rfl, ?_, ?_, ?_⟩
  · exact Lib.BuilderAt.put (T := 48) (e := 5) hB hb2 (bs' := bs ++ [.int .u8 c]) (by simpa using hown') (by decide)
  · exact ((hb1.alloc (by have := hb1.size; omega) _).grown hgrow (by have := hb1.size; simp; omega) (fun k hk => (hown.lt k hk).1)).setCell (p := ⟨b, 1, none⟩) hB _
  · exact ((hk1.alloc _).grown hgrow (Lib.ownsRow_kind (hown.alloc _))).setCell ⟨b, 1, none⟩ rfl _

end Go.Proofs.YthjnoboceibjjaaGreatDoor.Lx
