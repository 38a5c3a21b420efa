/- The splice that leads from a text to another one (Diff). -/
import Derived.Test.YtocogbllhmiefaaGreatDoorWalkT
import Derived.Laws.IdiomStrings
namespace Go.Proofs.YtocogbllhmiefaaGreatDoor.Lx
open Go Go.Proofs Go.RowKit Go.Shelf

/-- What a text's bytes are laid as. -/
def cvC (w : World) (s : ByteArray) : Nat := grownCap w s.size 0 5
def cvW (w : World) (s : ByteArray) : World := w.drew.alloc (.cells (bytesRow s (cvC w s)) 5 ((bytesRow s (cvC w s)).size, (bytesRow s (cvC w s)).size + 1))
theorem cv_run (w : World) (s : ByteArray) : (convert 9 66 (.string s)).run Tryz.prog w = .ok (.slice (some ⟨w.heap.size, 0, none⟩) s.size (cvC w s)) (cvW w s) :=
  run_bytes_of_string w 9 66 5 s Tryz.underlying9 Tryz.underlying66 Tryz.underlying5
theorem cv_below (w : World) (s : ByteArray) : Below w.heap.size w (cvW w s) := ((Below.refl w.heap.size w).drew).alloc (Nat.le_refl _) _
theorem cv_size (w : World) (s : ByteArray) : (cvW w s).heap.size = w.heap.size + 1 := by show (w.drew.alloc _).heap.size = _; rw [alloc_sz]; rfl
theorem cv_bytes (w : World) (s : ByteArray) : SlBy (cvW w s) (.slice (some ⟨w.heap.size, 0, none⟩) s.size (cvC w s)) s := by
  refine ⟨_, _, rfl, fun h0 => ⟨_, 0, rfl, by rw [cv_size]; omega, fun i hi => ?_⟩⟩
  rw [Nat.zero_add]
  refine (Lib.cell_of_heap (heap_alloc_new w.drew _) i).trans ?_
  have hd : i < s.data.size := hi
  rw [bytesRow, Array.getElem?_append_left (by simpa using hd), Array.getElem?_map, Array.getElem?_eq_getElem hd]
  show some (Value.int .u8 ((s[i]'hi).toNat : Int)) = _
  rw [bt_eq s i hi]

theorem str_eq {a b : ByteArray} : a.toList = b.toList ↔ a = b := by
  rw [ByteArray.toList_eq, ByteArray.toList_eq]
  obtain ⟨⟨a⟩⟩ := a
  obtain ⟨⟨b⟩⟩ := b
  simp

/-- Where two texts begin to differ, and how much of the rest is the same. -/
def headOf (a b : ByteArray) : Nat := com (bt a) (bt b) (min a.size b.size) 0
def restOf (a b : ByteArray) : ByteArray := a.extract (headOf a b) a.size
def tailIn (a b : ByteArray) : Nat := com (fun i => bt a (a.size - 1 - i)) (fun i => bt b (b.size - 1 - i)) (min a.size b.size) 0
def tailOf (a b : ByteArray) : Nat := tailIn (a.extract (headOf a b) a.size) (b.extract (headOf a b) b.size)
def diffErr (a b : ByteArray) : Nat := if (textErr a).2 ≠ 0 then (textErr a).2 else (textErr b).2
def diffOf (a b : ByteArray) : Sp := ⟨(headOf a b : Int), ((a.size - tailOf a b : Nat) : Int), b.extract (headOf a b) (b.size - tailOf a b)⟩
def diff (a b : ByteArray) : List Sp := if diffErr a b = 0 then (if a.toList = b.toList then [] else [diffOf a b]) else []
theorem head_le (a b : ByteArray) : headOf a b ≤ a.size ∧ headOf a b ≤ b.size := by
  have := com_le (bt a) (bt b) (min a.size b.size) 0
  unfold headOf; omega
theorem tail_le (a b : ByteArray) : tailOf a b ≤ a.size - headOf a b ∧ tailOf a b ≤ b.size - headOf a b := by
  have h := head_le a b
  have := com_le (fun i => bt (a.extract (headOf a b) a.size) ((a.extract (headOf a b) a.size).size - 1 - i)) (fun i => bt (b.extract (headOf a b) b.size) ((b.extract (headOf a b) b.size).size - 1 - i)) (min (a.extract (headOf a b) a.size).size (b.extract (headOf a b) b.size).size) 0
  have h1 : (a.extract (headOf a b) a.size).size = a.size - headOf a b := by simp
  have h2 : (b.extract (headOf a b) b.size).size = b.size - headOf a b := by simp
  unfold tailOf tailIn
  omega

def DiffP (a b : ByteArray) (w : World) (e : Ending) (w' : World) : Prop :=
  ∃ v, e = .returned (.tuple #[v, .int .i64 (diffErr a b : Int)]) ∧ SlSp w' v (diff a b) ∧ (diff a b = [] → v = .slice none 0 0) ∧ Below w.heap.size w w'
theorem SlSp.nil (W : World) : SlSp W (.slice none 0 0) [] := ⟨none, 0, rfl, fun h => absurd h (by decide)⟩

set_option maxRecDepth 100000 in
set_option maxHeartbeats 4000000 in
theorem diff_any (a b : ByteArray) (w : World) (hsa : a.size ≤ 100000) (hsb : b.size ≤ 100000) :
    Calls Tryz.prog 23 #[.string a, .string b] w (DiffP a b w) := by
  have hcv := cv_run
  go_enter Tryz.func23, Tryz.ntmps23
  go_wp2
  go_loopw [17] (fun i wr => ∃ k : Nat, k ≤ 2 ∧ i = .int .i64 k ∧ (1 ≤ k → (textErr a).2 = 0) ∧ (2 ≤ k → (textErr b).2 = 0) ∧ Below w.heap.size w wr ∧ w.heap.size < wr.heap.size ∧ wr.cell? ⟨w.heap.size, 0, none⟩ = some (.string a) ∧ wr.cell? ⟨w.heap.size, 1, none⟩ = some (.string b)) (fun i _ => 2 - (intOf i).toNat)
  case atStart => exact ⟨0, by omega, rfl, fun h => absurd h (by omega), fun h => absurd h (by omega), (Below.refl _ _).alloc (Nat.le_refl _) _, by rw [alloc_sz]; omega, cell_new w _ _ 0, cell_new w _ _ 1⟩
  case round =>
    obtain ⟨k, hk, rfl, hea, heb, hbw, hws, hc0, hc1⟩ := hrel
    have Hea := Lib.hid hea
    have Heb := Lib.hid heb
    clear hea heb
    rcases (show k = 0 ∨ k = 1 ∨ k = 2 by omega) with rfl | rfl | rfl
    · by_cases h0 : (textErr a).2 = 0
      · have H0 := Lib.hid h0
        clear h0
        go_wp2_with (go_at_call 28; refine (textError_any a _ hsa).mono ?_; rw [H0.out]; rintro e w1 ⟨rfl, hb1⟩)
        go_roundw
        case rel => exact ⟨1, by omega, rfl, fun _ => H0.out, fun h => absurd h (by omega), hbw.trans (hb1.mono hbw.size), Nat.lt_of_lt_of_le hws hb1.size, (hb1.cell (p := ⟨w.heap.size, 0, none⟩) hws).trans hc0, (hb1.cell (p := ⟨w.heap.size, 1, none⟩) hws).trans hc1⟩
        case measure => simp [intOf]
      · have Hd := Lib.hid (show diffErr a b = (textErr a).2 from if_pos h0)
        have Hn := Lib.hid (show diff a b = [] from if_neg (by rw [Hd.out]; exact h0))
        generalize hte : (textErr a).2 = te at h0 Hd
        have Hte := Lib.hid hte
        have ht3 : ((te : Int) != 0) = true := by simp; omega
        clear h0 hte
        go_wp2_with (go_at_call 28; refine (textError_any a _ hsa).mono ?_; rw [Hte.out]; rintro e w1 ⟨rfl, hb1⟩)
        go_ret2
        exact ⟨_, by rw [Hd.out]; rfl, by rw [Hn.out]; exact SlSp.nil _, fun _ => rfl, hbw.trans (hb1.mono hbw.size)⟩
    · by_cases h0 : (textErr b).2 = 0
      · have H0 := Lib.hid h0
        clear h0
        go_wp2_with (go_at_call 28; refine (textError_any b _ hsb).mono ?_; rw [H0.out]; rintro e w1 ⟨rfl, hb1⟩)
        go_roundw
        case rel => exact ⟨2, by omega, rfl, fun _ => Hea.out (by omega), fun _ => H0.out, hbw.trans (hb1.mono hbw.size), Nat.lt_of_lt_of_le hws hb1.size, (hb1.cell (p := ⟨w.heap.size, 0, none⟩) hws).trans hc0, (hb1.cell (p := ⟨w.heap.size, 1, none⟩) hws).trans hc1⟩
        case measure => simp [intOf]
      · have Hd := Lib.hid (show diffErr a b = (textErr b).2 from if_neg (by rw [Hea.out (by omega)]; simp))
        have Hn := Lib.hid (show diff a b = [] from if_neg (by rw [Hd.out]; exact h0))
        generalize hte : (textErr b).2 = te at h0 Hd
        have Hte := Lib.hid hte
        have ht3 : ((te : Int) != 0) = true := by simp; omega
        clear h0 hte
        go_wp2_with (go_at_call 28; refine (textError_any b _ hsb).mono ?_; rw [Hte.out]; rintro e w1 ⟨rfl, hb1⟩)
        go_ret2
        exact ⟨_, by rw [Hd.out]; rfl, by rw [Hn.out]; exact SlSp.nil _, fun _ => rfl, hbw.trans (hb1.mono hbw.size)⟩
    · have Hd := Lib.hid (show diffErr a b = 0 by unfold diffErr; rw [Hea.out (by omega), Heb.out (by omega)]; rfl)
      clear hc0 hc1
      by_cases hx : a.toList = b.toList
      · have Hn := Lib.hid (show diff a b = [] by unfold diff; rw [if_pos Hd.out, if_pos hx])
        go_wp2
        go_ret2
        exact ⟨_, by rw [Hd.out]; rfl, by rw [Hn.out]; exact SlSp.nil _, fun _ => rfl, hbw⟩
      · have Hn := Lib.hid (show diff a b = [diffOf a b] by unfold diff; rw [if_pos Hd.out, if_neg hx])
        have hx2 : (a.toList == b.toList) = false := by simp [hx]
        have hx3 : (b.toList == a.toList) = false := by simp; exact fun e => hx e.symm
        obtain ⟨hh1, hh2⟩ := head_le a b
        obtain ⟨ht1, ht2⟩ := tail_le a b
        have hq1 : SlBy (cvW (cvW wr a) b) (.slice (some ⟨wr.heap.size, 0, none⟩) a.size (cvC wr a)) a := (cv_bytes wr a).below (cv_below _ b)
        have hq2 := cv_bytes (cvW wr a) b
        have hcs := fun w => cv_size w a
        rw [cv_size] at hq2
        have hco := common_start _ _ a b _ hq1 hq2 hsa hsb
        rw [show com (bt a) (bt b) (min a.size b.size) 0 = headOf a b from rfl] at hco
        have Hco := Lib.hid hco
        clear hco hq1 hq2
        have hBc : Below w.heap.size w (cvW (cvW wr a) b) := (hbw.trans ((cv_below wr a).mono hbw.size)).trans ((cv_below _ b).mono (by rw [cv_size]; have := hbw.size; omega))
        have HBc := Lib.hid hBc
        clear hBc
        have hcs2 := cv_size
        have hsz1 : (a.extract (headOf a b) a.size).size = a.size - headOf a b := by simp
        have hsz2 : (b.extract (headOf a b) b.size).size = b.size - headOf a b := by simp
        have hte : ∀ W va vb, SlBy W va (a.extract (headOf a b) a.size) → SlBy W vb (b.extract (headOf a b) b.size) → Calls Tryz.prog 56 #[va, vb, .func (.func 58) #[] #[], .func (.func 55) #[] #[]] W fun e w' => e = .returned (.int .i64 (tailOf a b : Int)) ∧ Below W.heap.size W w' :=
          fun W va vb h1 h2 => common_end va vb _ _ W h1 h2 (by omega) (by omega)
        have hA1 : ∀ W n, n = W.heap.size → SlBy (cvW (cvW W (a.extract (headOf a b) a.size)) (b.extract (headOf a b) b.size)) (.slice (some ⟨n, 0, none⟩) (a.size - headOf a b) (cvC W (a.extract (headOf a b) a.size))) (a.extract (headOf a b) a.size) := fun W n hn => by
          subst hn; have := (cv_bytes W (a.extract (headOf a b) a.size)).below (cv_below _ (b.extract (headOf a b) b.size)); rw [hsz1] at this; exact this
        have hB1 : ∀ W n, n = W.heap.size + 1 → SlBy (cvW (cvW W (a.extract (headOf a b) a.size)) (b.extract (headOf a b) b.size)) (.slice (some ⟨n, 0, none⟩) (b.size - headOf a b) (cvC (cvW W (a.extract (headOf a b) a.size)) (b.extract (headOf a b) b.size))) (b.extract (headOf a b) b.size) := fun W n hn => by
          subst hn; have := cv_bytes (cvW W (a.extract (headOf a b) a.size)) (b.extract (headOf a b) b.size); rw [hsz2, cv_size] at this; exact this
        have hA2 : ∀ W n, n = W.heap.size + 1 → SlBy (cvW (cvW W (b.extract (headOf a b) b.size)) (a.extract (headOf a b) a.size)) (.slice (some ⟨n, 0, none⟩) (a.size - headOf a b) (cvC (cvW W (b.extract (headOf a b) b.size)) (a.extract (headOf a b) a.size))) (a.extract (headOf a b) a.size) := fun W n hn => by
          subst hn; have := cv_bytes (cvW W (b.extract (headOf a b) b.size)) (a.extract (headOf a b) a.size); rw [hsz1, cv_size] at this; exact this
        have hB2 : ∀ W n, n = W.heap.size → SlBy (cvW (cvW W (b.extract (headOf a b) b.size)) (a.extract (headOf a b) a.size)) (.slice (some ⟨n, 0, none⟩) (b.size - headOf a b) (cvC W (b.extract (headOf a b) b.size))) (b.extract (headOf a b) b.size) := fun W n hn => by
          subst hn; have := (cv_bytes W (b.extract (headOf a b) b.size)).below (cv_below _ (a.extract (headOf a b) a.size)); rw [hsz2] at this; exact this
        have hX1 : ∀ W w2, Below (cvW (cvW W (a.extract (headOf a b) a.size)) (b.extract (headOf a b) b.size)).heap.size (cvW (cvW W (a.extract (headOf a b) a.size)) (b.extract (headOf a b) b.size)) w2 → Below W.heap.size W w2 := fun W w2 h => ((cv_below W (a.extract (headOf a b) a.size)).trans ((cv_below (cvW W (a.extract (headOf a b) a.size)) (b.extract (headOf a b) b.size)).mono (by rw [cv_size]; omega))).trans (h.mono (by rw [cv_size, cv_size]; omega))
        have hX2 : ∀ W w2, Below (cvW (cvW W (b.extract (headOf a b) b.size)) (a.extract (headOf a b) a.size)).heap.size (cvW (cvW W (b.extract (headOf a b) b.size)) (a.extract (headOf a b) a.size)) w2 → Below W.heap.size W w2 := fun W w2 h => ((cv_below W (b.extract (headOf a b) b.size)).trans ((cv_below (cvW W (b.extract (headOf a b) b.size)) (a.extract (headOf a b) a.size)).mono (by rw [cv_size]; omega))).trans (h.mono (by rw [cv_size, cv_size]; omega))
        have HA1 := Lib.hid hA1
        have HA2 := Lib.hid hA2
        have HB1 := Lib.hid hB1
        have HB2 := Lib.hid hB2
        have HX1 := Lib.hid hX1
        have HX2 := Lib.hid hX2
        have Hte := Lib.hid hte
        clear hA1 hA2 hB1 hB2 hX1 hX2 hte hsz1 hsz2
        go_wp2_with (go_at_call 56; refine Hco.out.mono ?_; rintro e w1 ⟨rfl, hb1⟩)
        clear hcs
        go_region_with (go_at_call 56; refine (Hte.out _ _ _ (by first | ((with_reducible refine HA1.out _ _ ?_); rfl) | exact HA2.out _ _ rfl) (by first | ((with_reducible refine HB1.out _ _ ?_); rfl) | exact HB2.out _ _ rfl)).mono ?_; rintro e w2 ⟨rfl, hb2⟩; have hb3 := (by first | (with_reducible exact HX1.out _ _ hb2) | (exact HX2.out _ _ hb2) : Below w1.drew.heap.size w1.drew w2))
        all_goals (
          have hz1 := HBc.out.size
          have hBw : Below w.heap.size w w2 := (HBc.out.trans (hb1.mono hz1)).trans ((Below.refl w.heap.size w1).drew.trans (hb3.mono (Nat.le_trans hz1 hb1.size)))
          have HBw := Lib.hid hBw
          clear hBw hb2 hb3
          have hn1 : (a.size : Int) - (tailOf a b : Int) = ((a.size - tailOf a b : Nat) : Int) := by omega
          have hn2 : (b.size : Int) - (tailOf a b : Int) = ((b.size - tailOf a b : Nat) : Int) := by omega
          have hn3 : headOf a b ≤ b.size - tailOf a b := by omega
          have hn4 : b.size - tailOf a b ≤ b.size := by omega
          go_wp2
          go_ret2
          exact ⟨_, by rw [Hd.out]; rfl, by rw [Hn.out]; exact SlSp.lit w2 [diffOf a b] 1, fun h => by (rw [Hn.out] at h; cases h), HBw.out.alloc HBw.out.size _⟩)

end Go.Proofs.YtocogbllhmiefaaGreatDoor.Lx
