/- LexNames: it returns true (the document's other examples, and errors): the row and its tied card. -/
import Derived.Test.YtocogbllhmiefaaGreatDoorWalkBC
import Derived.Test.YtocogbllhmiefaaGreatDoorWalkAX
import Derived.Test.YtocogbllhmiefaaGreatDoorWalkAO
import Derived.Test.YtocogbllhmiefaaGreatDoorWalkAI
import Derived.Test.YtocogbllhmiefaaGreatDoorWalkY
import Derived.Test.YtocogbllhmiefaaGreatDoorWalkV
import Derived.Test.YtocogbllhmiefaaGreatDoorWalkBD
import Derived.Test.YtocogbllhmiefaaGreatDoorWalkU
import Derived.Test.YtocogbllhmiefaaGreatDoorCardA
import Derived.Test.YtocogbllhmiefaaGreatDoorCards
import Derived.SevenTiedAt
import Derived.HandedShaped
import Derived.Shelf.Vars
import Derived.Lay
namespace Go.Proofs.YtocogbllhmiefaaGreatDoor.Lx
open Go Go.Proofs Go.RowKit Go.Shelf

set_option maxRecDepth 100000 in
theorem nm_t1 : (tokens ⟨#[100, 101, 102, 32, 65, 98]⟩).2 = (4, 4) := by rfl
set_option maxRecDepth 100000 in
theorem nm_t2 : (tokens ⟨#[97, 32, 48, 49]⟩).2 = (2, 4) := by rfl
set_option maxRecDepth 100000 in
theorem nm_t3 : (tokens ⟨#[49, 48, 48, 48, 48, 48, 49]⟩).2 = (0, 3) := by rfl
theorem nm_e : (textErr ⟨#[97, 10, 98, 99]⟩).2 = 0 := by rfl
theorem nm_s1 : lineOf ⟨#[97, 10, 98, 99]⟩ 3 = 2 ∧ colOf ⟨#[97, 10, 98, 99]⟩ 3 = 2 := by decide
theorem nm_a1 : atOf ⟨#[97, 10, 98, 99]⟩ 1 2 = some 1 := by decide
theorem nm_a2 : atOf ⟨#[97, 10, 98, 99]⟩ 1 3 = none := by decide
def nmL : List Tk := [⟨1, ⟨#[120]⟩, 0⟩, ⟨4, ⟨#[58]⟩, 0⟩, ⟨4, ⟨#[61]⟩, 0⟩, ⟨3, ⟨#[105, 110]⟩, 0⟩, ⟨4, ⟨#[40]⟩, 0⟩]
set_option maxRecDepth 100000 in
theorem nm_g1 : tightErr nmL = 0 := by decide +kernel
set_option maxRecDepth 100000 in
theorem nm_g2 : tight nmL = ⟨#[120, 58, 32, 61, 105, 110, 40]⟩ := by rw [tight, if_pos nm_g1]; rfl
set_option maxRecDepth 100000 in
theorem nm_g3 : tightErr [⟨1, ⟨#[105, 110]⟩, 0⟩] = 2 := by decide +kernel
def nmP : List Tk := [⟨4, ⟨#[40]⟩, 0⟩, ⟨4, ⟨#[125]⟩, 0⟩]
set_option maxRecDepth 100000 in
theorem nm_p : toksErr nmP = 0 := by decide +kernel
def nmS : List Sp := [⟨1, 2, ⟨#[120, 121]⟩⟩]
theorem nm_m1 : moved ⟨#[97, 98, 99]⟩ nmS 2 = (3, 0) := by rfl
theorem nm_m2 : moved ⟨#[97, 98, 99]⟩ nmS 1 = (0, 7) := by rfl
theorem nm_u1 : splErr ⟨#[97, 98, 99]⟩ nmS = 0 := by rfl
theorem nm_u2 : undone ⟨#[97, 98, 99]⟩ nmS = [⟨1, 3, ⟨#[98]⟩⟩] := by rfl
theorem nm_d1 : diffErr ⟨#[97, 97, 98]⟩ ⟨#[97, 98]⟩ = 0 := by rfl
theorem nm_h : headOf ⟨#[97, 97, 98]⟩ ⟨#[97, 98]⟩ = 1 := by decide +kernel
theorem nm_t : tailOf ⟨#[97, 97, 98]⟩ ⟨#[97, 98]⟩ = 1 := by decide +kernel
theorem nm_d2 : diff ⟨#[97, 97, 98]⟩ ⟨#[97, 98]⟩ = [⟨1, 2, ⟨#[]⟩⟩] := by
  rw [diff, if_pos nm_d1, if_neg (by rw [ByteArray.toList_eq, ByteArray.toList_eq]; decide), diffOf, nm_h, nm_t]
  rfl
set_option maxRecDepth 100000 in
theorem nm_k1 : keptErr ⟨#[97, 32, 98, 32, 99]⟩ ⟨2, 3, ⟨#[100, 32, 101]⟩⟩ = 0 := by decide +kernel
set_option maxRecDepth 100000 in
theorem nm_k2 : keptHead ⟨#[97, 32, 98, 32, 99]⟩ ⟨2, 3, ⟨#[100, 32, 101]⟩⟩ = 1 := by decide +kernel
set_option maxRecDepth 100000 in
theorem nm_k3 : keptTail ⟨#[97, 32, 98, 32, 99]⟩ ⟨2, 3, ⟨#[100, 32, 101]⟩⟩ = 1 := by decide +kernel
set_option maxRecDepth 100000 in
theorem nm_r1 : renErr ⟨#[120, 32, 43, 32, 120, 115]⟩ ⟨#[120]⟩ ⟨#[120, 115]⟩ = 6 := by decide +kernel
set_option maxRecDepth 100000 in
theorem nm_r2 : renErr ⟨#[120, 32, 43, 32, 120, 115]⟩ ⟨#[120]⟩ ⟨#[105, 102]⟩ = 2 := by decide +kernel
set_option maxRecDepth 100000 in
theorem nm_r3 : renErr ⟨#[120, 32, 43, 32, 120, 115]⟩ ⟨#[121]⟩ ⟨#[122]⟩ = 7 := by decide +kernel

end Go.Proofs.YtocogbllhmiefaaGreatDoor.Lx

namespace Go.Proofs.YtocogbllhmiefaaGreatDoor.Lx
open Go Go.Proofs Go.RowKit Go.Shelf

set_option maxHeartbeats 400000 in
theorem opener_nm (w : World) : Calls Tryz.prog 42 #[.string ⟨#[125]⟩] w fun e w' => e = .returned (.string ⟨#[123]⟩) ∧ w' = w := by
  go_enter Tryz.func42, Tryz.ntmps42
  go_wp2
  go_ret
  exact ⟨rfl, rfl⟩
theorem own_two {w : World} {base g : Nat} {e : TypeId} {a c : Value} (h : w.ownsRow base e 1 (.slice (some ⟨g, 0, none⟩) 2 2) 2 [a, c]) :
    base ≤ g ∧ w.cell? ⟨g, 0, none⟩ = some a ∧ w.cell? ⟨g, 1, none⟩ = some c ∧ w.frozen? ⟨g, 0, none⟩ = false ∧ w.frozen? ⟨g, 1, none⟩ = false ∧ g < w.heap.size := by
  obtain ⟨_, hh⟩ := h
  rcases hh with ⟨h1, _⟩ | ⟨g', cap, cur, hv, hb, hp, _, _, hsz, ht⟩
  · injection h1 with h1; cases h1
  · injection hv with e1 _ e3
    injection e1 with e1
    injection e1 with e1
    subst e1
    have hl : cur.toList.length = 2 := by rw [Array.length_toList, hsz, ← e3]
    have hc : cur.toList = [a, c] := by rw [← ht, List.take_of_length_le (by rw [hl]; decide)]
    have h0 : ∀ i : Nat, cur[i]? = [a, c][i]? := fun i => by rw [← hc, Array.getElem?_toList]
    exact ⟨hb, by rw [Lib.cell_of_heap hp]; exact h0 0, by rw [Lib.cell_of_heap hp]; exact h0 1, Lib.frozen_of_heap hp 0, Lib.frozen_of_heap hp 1, (Array.getElem?_eq_some_iff.1 hp).1⟩

theorem int_info : (Tryz.prog.info? 3).map (fun i => (i.zero, i.size, i.bytes)) = some (some (.int .i64 0), 1, 8) := by kernel_rfl

set_option maxRecDepth 100000 in
set_option maxHeartbeats 8000000 in
theorem pairs_nm (b : Nat) (w : World) (hG : Gl w) (hb : b < w.heap.size) (h : SlTk w (.slice (some ⟨b, 0, none⟩) 2 2) nmP) :
    Calls Tryz.prog 15 #[.slice (some ⟨b, 0, none⟩) 2 2] w fun e w' => e = .returned (.tuple #[.slice none 0 0, .int .i64 1, .int .i64 4]) ∧ Below w.heap.size w w' := by
  have hte := fun W hW hG' => tokensError_any (.slice (some ⟨b, 0, none⟩) 2 2) nmP W hW (by decide) (by decide) hG'
  rw [nm_p] at hte
  have hc : w.cell? ⟨b, 0, none⟩ = some (.int .u8 4) ∧ w.cell? ⟨b, 1, none⟩ = some (.string ⟨#[40]⟩) ∧ w.cell? ⟨b, 2, none⟩ = some (.int .i64 0) ∧ w.cell? ⟨b, 3, none⟩ = some (.int .u8 4) ∧ w.cell? ⟨b, 4, none⟩ = some (.string ⟨#[125]⟩) ∧ w.cell? ⟨b, 5, none⟩ = some (.int .i64 0) := by
    obtain ⟨A, c, hv, hA⟩ := h
    injection hv with e1 _ _
    subst e1
    obtain ⟨b', o', hb', _, hc⟩ := hA (by decide)
    injection hb' with hb'
    injection hb' with e1 e2
    subst e1
    subst e2
    obtain ⟨p1, p2, p3⟩ := hc 0 ⟨4, ⟨#[40]⟩, 0⟩ rfl
    obtain ⟨q1, q2, q3⟩ := hc 1 ⟨4, ⟨#[125]⟩, 0⟩ rfl
    exact ⟨p1, p2, p3, q1, q2, q3⟩
  have HC : Hid (∀ {w1 : World}, Below w.heap.size w w1 → w1.cell? ⟨b, 0, none⟩ = some (.int .u8 4) ∧ w1.cell? ⟨b, 1, none⟩ = some (.string ⟨#[40]⟩) ∧ w1.cell? ⟨b, 2, none⟩ = some (.int .i64 0) ∧ w1.cell? ⟨b, 3, none⟩ = some (.int .u8 4) ∧ w1.cell? ⟨b, 4, none⟩ = some (.string ⟨#[125]⟩) ∧ w1.cell? ⟨b, 5, none⟩ = some (.int .i64 0) ∧ b < w1.heap.size) := fun {w1} hb1 =>
    ⟨(hb1.cell (p := ⟨b, 0, none⟩) hb).trans hc.1, (hb1.cell (p := ⟨b, 1, none⟩) hb).trans hc.2.1, (hb1.cell (p := ⟨b, 2, none⟩) hb).trans hc.2.2.1, (hb1.cell (p := ⟨b, 3, none⟩) hb).trans hc.2.2.2.1, (hb1.cell (p := ⟨b, 4, none⟩) hb).trans hc.2.2.2.2.1, (hb1.cell (p := ⟨b, 5, none⟩) hb).trans hc.2.2.2.2.2, Nat.lt_of_lt_of_le hb hb1.size⟩
  clear hc
  have Hte := Lib.hid hte
  have H := Lib.hid h
  clear hte h
  go_enter Tryz.func15, Tryz.ntmps15
  obtain ⟨i0, hi, hz0, hzz1, hz2⟩ := info_parts int_info
  have hmk : ∀ w1 : World, ∃ w2, (Instr.makeSlice 35 (.int .i64 2) (.int .i64 2)).run Tryz.prog w1 = .ok (.slice (some ⟨w1.heap.size, 0, none⟩) 2 2) w2 ∧ w2.ownsRow w1.heap.size 3 1 (.slice (some ⟨w1.heap.size, 0, none⟩) 2 2) 2 [.int .i64 0, .int .i64 0] ∧ w1.grownBy w2 none := fun w1 => by
    obtain ⟨w2, h1, h2, h3⟩ := run_make_full (P := Tryz.prog) w1 w1.heap.size 35 3 i0 (.int .i64 0) 1 Tryz.underlying35 hi hz0 hzz1 .i64 .i64 2 (by rw [hz2]; decide) (by decide) (Nat.le_refl _)
    have e : (madeCells (Value.int .i64 0).cells (2 * 1)).toList = [.int .i64 0, .int .i64 0] := by simp [madeCells, Value.cells]; rfl
    rw [e] at h2
    exact ⟨w2, h1, h2, h3⟩
  have Hmk := Lib.hid hmk
  clear hmk
  go_wp2_with (go_at_call 34; refine (Hte.out _ (SlTw.of_tk H.out) hG).mono ?_; rintro e w1 ⟨rfl, hb1⟩; obtain ⟨w2, hrun, hown2, hg2⟩ := Hmk.out w1; have hb2 : Below w.heap.size w w2 := hb1.grown hg2 hb1.size (fun k hk => by cases hk); obtain ⟨d0, d1, d2, d3, d4, d5, hz2'⟩ := HC.out hb2)
  obtain ⟨hge, k0, k1, f0, f1, hgl⟩ := own_two hown2
  refine wp_loop_rounds 3 ?_
  rw [rounds_succ]
  go_wp2
  have hsA : (w2.setCell ⟨w1.heap.size, 0, none⟩ (.int .i64 (-1))).heap.size = w2.heap.size := by simp
  have hbA : Below w.heap.size w (w2.setCell ⟨w1.heap.size, 0, none⟩ (.int .i64 (-1))) := hb2.setCell (p := ⟨w1.heap.size, 0, none⟩) hb1.size _
  have hb3 : Below w2.heap.size (w2.setCell ⟨w1.heap.size, 0, none⟩ (.int .i64 (-1))) ((((w2.setCell ⟨w1.heap.size, 0, none⟩ (.int .i64 (-1))).alloc (.cells #[.int .u8 4, .string ⟨#[40]⟩, .int .i64 0] 47)).alloc (.cells #[.int .i64 0] 3)).alloc (.cells (#[.int .i64 0] ++ Builtin.zeroCells #[.int .i64 0] ((Question.appendCap 1 0 3).cut (w2.tape w2.drawn (Question.appendCap 1 0 3)) - 1)) 3)).drew := ((((Below.refl _ _).alloc (by rw [hsA]; omega) _).alloc (by rw [alloc_sz, hsA]; omega) _).alloc (by rw [alloc_sz, alloc_sz, hsA]; omega) _).drew
  have hv0 : ((((w2.setCell ⟨w1.heap.size, 0, none⟩ (.int .i64 (-1))).alloc (.cells #[.int .u8 4, .string ⟨#[40]⟩, .int .i64 0] 47)).alloc (.cells #[.int .i64 0] 3)).alloc (.cells (#[.int .i64 0] ++ Builtin.zeroCells #[.int .i64 0] ((Question.appendCap 1 0 3).cut (w2.tape w2.drawn (Question.appendCap 1 0 3)) - 1)) 3)).drew.cell? ⟨w2.heap.size + 1 + 1, 0, none⟩ = some (.int .i64 0) := by
    rw [show w2.heap.size + 1 + 1 = (((w2.setCell ⟨w1.heap.size, 0, none⟩ (.int .i64 (-1))).alloc (.cells #[.int .u8 4, .string ⟨#[40]⟩, .int .i64 0] 47)).alloc (.cells #[.int .i64 0] 3)).heap.size by rw [alloc_sz, alloc_sz, hsA]]
    exact (cell_new _ _ _ 0).trans (by rw [Array.getElem?_append_left (by decide)]; rfl)
  have hB3s : w2.heap.size + 1 + 1 < ((((w2.setCell ⟨w1.heap.size, 0, none⟩ (.int .i64 (-1))).alloc (.cells #[.int .u8 4, .string ⟨#[40]⟩, .int .i64 0] 47)).alloc (.cells #[.int .i64 0] 3)).alloc (.cells (#[.int .i64 0] ++ Builtin.zeroCells #[.int .i64 0] ((Question.appendCap 1 0 3).cut (w2.tape w2.drawn (Question.appendCap 1 0 3)) - 1)) 3)).drew.heap.size := by
    show w2.heap.size + 1 + 1 < ((((w2.setCell ⟨w1.heap.size, 0, none⟩ (.int .i64 (-1))).alloc (.cells #[.int .u8 4, .string ⟨#[40]⟩, .int .i64 0] 47)).alloc (.cells #[.int .i64 0] 3)).alloc _).heap.size
    rw [alloc_sz, alloc_sz, alloc_sz, hsA]
    omega
  have hB3n : w2.heap.size + 1 + 1 ≠ w1.heap.size := by omega
  generalize ((((w2.setCell ⟨w1.heap.size, 0, none⟩ (.int .i64 (-1))).alloc (.cells #[.int .u8 4, .string ⟨#[40]⟩, .int .i64 0] 47)).alloc (.cells #[.int .i64 0] 3)).alloc (.cells (#[.int .i64 0] ++ Builtin.zeroCells #[.int .i64 0] ((Question.appendCap 1 0 3).cut (w2.tape w2.drawn (Question.appendCap 1 0 3)) - 1)) 3)).drew = W3 at *
  have hb4 : Below w.heap.size w W3 := hbA.trans (hb3.mono (Nat.le_trans hb1.size (Nat.le_of_lt (by omega))))
  obtain ⟨m0, m1, m2, m3, m4, m5, hz3⟩ := HC.out hb4
  have n1 : W3.cell? ⟨w1.heap.size, 1, none⟩ = some (.int .i64 0) := (hb3.cell (p := ⟨w1.heap.size, 1, none⟩) hgl).trans (set_off _ (by simp) k1)
  have n1f : W3.frozen? ⟨w1.heap.size, 1, none⟩ = false := (hb3.frozen (p := ⟨w1.heap.size, 1, none⟩) hgl).trans (by simpa using f1)
  have n1s : w1.heap.size < W3.heap.size := Nat.lt_of_lt_of_le hgl (by have := hb3.size; rw [hsA] at this; exact this)
  have hne1 : b ≠ w1.heap.size := by have := hb1.size; omega
  clear d0 d1 d2 d3 d4 d5 k0 k1 f0 f1 hbA hb3 hsA hown2 hg2 hrun hb2
  generalize (Question.appendCap 1 0 3).cut (w2.tape w2.drawn (Question.appendCap 1 0 3)) = cp at *
  generalize w2.heap.size + 1 + 1 = B3 at *
  rw [rounds_succ]
  go_wp2
  go_quiet (first
    | exact Calls.quiet_of_same (opener_nm _)
    | (go_at_call 42; exact Calls.quiet_of_same (opener_nm _)))
  go_wp2
  go_ret3
  exact ⟨rfl, below_draws ((hb4.setCell (p := ⟨w1.heap.size, 1, none⟩) hb1.size _).alloc (by have := hb4.size; simp; exact this) _) _⟩

end Go.Proofs.YtocogbllhmiefaaGreatDoor.Lx

namespace Go.Proofs.YtocogbllhmiefaaGreatDoor.Lx
open Go Go.Proofs Go.RowKit Go.Shelf

set_option maxRecDepth 1000000 in
set_option maxHeartbeats 16000000 in
theorem lexNames_any (w : World) (hG : Gl w) (hM : Mx w) :
    Calls Tryz.prog 6 #[] w (AwakeP w) := by
  have t1 := fun W hG' => tokens_any ⟨#[100, 101, 102, 32, 65, 98]⟩ W (by decide) hG'
  have t2 := fun W hG' => tokens_any ⟨#[97, 32, 48, 49]⟩ W (by decide) hG'
  have t3 := fun W hG' => tokens_any ⟨#[49, 48, 48, 48, 48, 48, 49]⟩ W (by decide) hG'
  rw [nm_t1] at t1
  rw [nm_t2] at t2
  rw [nm_t3] at t3
  have T1 := Lib.hid t1
  have T2 := Lib.hid t2
  have T3 := Lib.hid t3
  have s1 : ∀ W, Calls Tryz.prog 8 #[.string ⟨#[97, 10, 98, 99]⟩, .int .i64 3] W fun e w' => e = .returned (.tuple #[.agg #[.int .i64 2, .int .i64 2], .int .i64 0]) ∧ Below W.heap.size W w' := fun W => by
    refine (spot_any ⟨#[97, 10, 98, 99]⟩ 3 W (by decide)).mono ?_
    rintro e w' ⟨rfl, hb⟩
    have hz : spotErr ⟨#[97, 10, 98, 99]⟩ 3 = 0 := by unfold spotErr; rw [if_neg (by simp [nm_e]), if_neg (by decide)]
    rw [hz, if_pos rfl, if_pos rfl, show (3 : Int).toNat = 3 from rfl, nm_s1.1, nm_s1.2]
    exact ⟨rfl, hb⟩
  have a1 : ∀ W, Mx W → Calls Tryz.prog 10 #[.string ⟨#[97, 10, 98, 99]⟩, .agg #[.int .i64 1, .int .i64 2]] W fun e w' => e = .returned (.tuple #[.int .i64 1, .int .i64 0]) ∧ Below W.heap.size W w' := fun W hW => by
    refine (at_any ⟨#[97, 10, 98, 99]⟩ 1 2 W (by decide) hW (by decide)).mono ?_
    rintro e w' ⟨rfl, hb⟩
    have h1 : atErr ⟨#[97, 10, 98, 99]⟩ 1 2 = 0 := by unfold atErr; rw [if_neg (by simp [nm_e]), nm_a1]; rfl
    have h2 : atRes ⟨#[97, 10, 98, 99]⟩ 1 2 = 1 := by unfold atRes; rw [if_neg (by simp [nm_e]), nm_a1]; rfl
    rw [h1, h2]
    exact ⟨rfl, hb⟩
  have a2 : ∀ W, Mx W → Calls Tryz.prog 10 #[.string ⟨#[97, 10, 98, 99]⟩, .agg #[.int .i64 1, .int .i64 3]] W fun e w' => e = .returned (.tuple #[.int .i64 0, .int .i64 7]) ∧ Below W.heap.size W w' := fun W hW => by
    refine (at_any ⟨#[97, 10, 98, 99]⟩ 1 3 W (by decide) hW (by decide)).mono ?_
    rintro e w' ⟨rfl, hb⟩
    have h1 : atErr ⟨#[97, 10, 98, 99]⟩ 1 3 = 7 := by unfold atErr; rw [if_neg (by simp [nm_e]), nm_a2]; rfl
    have h2 : atRes ⟨#[97, 10, 98, 99]⟩ 1 3 = 0 := by unfold atRes; rw [if_neg (by simp [nm_e]), nm_a2]; rfl
    rw [h1, h2]
    exact ⟨rfl, hb⟩
  have S1 := Lib.hid s1
  have A1 := Lib.hid a1
  have A2 := Lib.hid a2
  have he1 := fun W => (spot_equal 2 2 2 2 W).trans (by rw [show spEq 2 2 2 2 = true from rfl])
  have g1 := fun W v hv hG' => tight_any v nmL W hv (by decide) (by decide) hG'
  rw [nm_g1, nm_g2] at g1
  have g2 := fun W v hv hG' => tight_any v [⟨1, ⟨#[105, 110]⟩, 0⟩] W hv (by decide) (by decide) hG'
  rw [nm_g3] at g2
  generalize tight [⟨1, ⟨#[105, 110]⟩, 0⟩] = tg at g2
  have G1 := Lib.hid g1
  have G2 := Lib.hid g2
  have lit1 : Hid (∀ W : World, SlTw (W.alloc (.cells #[.int .u8 1, .string ⟨#[120]⟩, .int .i64 0, .int .u8 4, .string ⟨#[58]⟩, .int .i64 0, .int .u8 4, .string ⟨#[61]⟩, .int .i64 0, .int .u8 3, .string ⟨#[105, 110]⟩, .int .i64 0, .int .u8 4, .string ⟨#[40]⟩, .int .i64 0] 47)) (.slice (some ⟨W.heap.size, 0, none⟩) 5 5) nmL) := fun W => SlTw.of_tk (SlTk.lit W nmL 5)
  have lit2 : Hid (∀ W : World, SlTw (W.alloc (.cells #[.int .u8 1, .string ⟨#[105, 110]⟩, .int .i64 0] 47)) (.slice (some ⟨W.heap.size, 0, none⟩) 1 1) [⟨1, ⟨#[105, 110]⟩, 0⟩]) := fun W => SlTw.of_tk (SlTk.lit W [⟨1, ⟨#[105, 110]⟩, 0⟩] 1)
  have lit3 : Hid (∀ W : World, SlTk (W.alloc (.cells #[.int .u8 4, .string ⟨#[40]⟩, .int .i64 0, .int .u8 4, .string ⟨#[125]⟩, .int .i64 0] 47)) (.slice (some ⟨W.heap.size, 0, none⟩) 2 2) nmP) := fun W => SlTk.lit W nmP 2
  have P1 : Hid (∀ W : World, Gl (W.alloc (.cells #[.int .u8 4, .string ⟨#[40]⟩, .int .i64 0, .int .u8 4, .string ⟨#[125]⟩, .int .i64 0] 47)) → Calls Tryz.prog 15 #[.slice (some ⟨W.heap.size, 0, none⟩) 2 2] (W.alloc (.cells #[.int .u8 4, .string ⟨#[40]⟩, .int .i64 0, .int .u8 4, .string ⟨#[125]⟩, .int .i64 0] 47)) fun e w' => e = .returned (.tuple #[.slice none 0 0, .int .i64 1, .int .i64 4]) ∧ Below (W.alloc (.cells #[.int .u8 4, .string ⟨#[40]⟩, .int .i64 0, .int .u8 4, .string ⟨#[125]⟩, .int .i64 0] 47)).heap.size (W.alloc (.cells #[.int .u8 4, .string ⟨#[40]⟩, .int .i64 0, .int .u8 4, .string ⟨#[125]⟩, .int .i64 0] 47)) w') := fun W hW => pairs_nm W.heap.size _ hW (by rw [alloc_sz]; omega) (lit3.out W)
  have litS : Hid (∀ W : World, SlSp (W.alloc (.cells #[.int .i64 1, .int .i64 2, .string ⟨#[120, 121]⟩] 40)) (.slice (some ⟨W.heap.size, 0, none⟩) 1 1) nmS) := fun W => SlSp.lit W nmS 1
  have m1 := fun W v hv => moved_any ⟨#[97, 98, 99]⟩ v nmS 2 W (by decide) hv (by decide) (by decide)
  have m2 := fun W v hv => moved_any ⟨#[97, 98, 99]⟩ v nmS 1 W (by decide) hv (by decide) (by decide)
  unfold MovedP at m1 m2
  rw [nm_m1] at m1
  rw [nm_m2] at m2
  have M1 := Lib.hid m1
  have M2 := Lib.hid m2
  have u1 := fun W v hv => undo_any ⟨#[97, 98, 99]⟩ v nmS W (by decide) hv (by decide) (by decide)
  rw [nm_u1, nm_u2] at u1
  have U1 := Lib.hid u1
  have d1 := fun W => diff_any ⟨#[97, 97, 98]⟩ ⟨#[97, 98]⟩ W (by decide) (by decide)
  unfold DiffP at d1
  rw [nm_d1, nm_d2] at d1
  have D1 := Lib.hid d1
  have k1 := fun W hG' => kept_any ⟨#[97, 32, 98, 32, 99]⟩ ⟨2, 3, ⟨#[100, 32, 101]⟩⟩ W (by decide) (by decide) hG'
  unfold KeptP at k1
  rw [nm_k1, nm_k2, nm_k3] at k1
  have K1 := Lib.hid k1
  have r1 := fun W hG' => rename_any ⟨#[120, 32, 43, 32, 120, 115]⟩ ⟨#[120]⟩ ⟨#[120, 115]⟩ W (by decide) (by decide) (by decide) hG'
  have r2 := fun W hG' => rename_any ⟨#[120, 32, 43, 32, 120, 115]⟩ ⟨#[120]⟩ ⟨#[105, 102]⟩ W (by decide) (by decide) (by decide) hG'
  have r3 := fun W hG' => rename_any ⟨#[120, 32, 43, 32, 120, 115]⟩ ⟨#[121]⟩ ⟨#[122]⟩ W (by decide) (by decide) (by decide) hG'
  unfold RenameP at r1 r2 r3
  rw [nm_r1] at r1
  rw [nm_r2] at r2
  rw [nm_r3] at r3
  have R1 := Lib.hid r1
  have R2 := Lib.hid r2
  have R3 := Lib.hid r3
  have eU := sp_equal ⟨1, 3, ⟨#[98]⟩⟩
  have eD := sp_equal ⟨1, 2, ⟨#[]⟩⟩
  clear t1 t2 t3 s1 a1 a2 g1 g2 m1 m2 u1 d1 k1 r1 r2 r3
  go_enter Tryz.func6, Tryz.ntmps6
  go_wp2_with (first
    | (go_at_call 7; refine (awake_any _ (hG.next B17)).mono ?_; rintro e w18 ⟨rfl, hb18⟩)
    | (go_at_call 24; refine (R3.out _ (hG.next B16)).mono ?_; rintro e w17 ⟨rfl, hb17⟩; have B17 := B16.trans (hb17.mono B16.size); have dz := dd.below (((hb14.trans (hb15.mono hb14.size)).trans (hb16.mono (Nat.le_trans hb14.size hb15.size))).trans (hb17.mono (Nat.le_trans hb14.size (Nat.le_trans hb15.size hb16.size)))); obtain ⟨Ad, cd, hvd, hAd⟩ := dz; injection hvd with jd1 jd2 jd3; clear jd2 jd3; subst jd1; obtain ⟨bd, od, hbd, hbd', hcd⟩ := hAd (by decide); injection hbd with hbd; injection hbd with q1 q2; subst q1; subst q2; obtain ⟨z0, z1, z2⟩ := hcd 0 ⟨1, 2, ⟨#[]⟩⟩ rfl; simp only [Nat.zero_mul, Nat.add_zero] at z0 z1 z2; clear hcd hAd)
    | (go_at_call 24; refine (R2.out _ (hG.next B15)).mono ?_; rintro e w16 ⟨rfl, hb16⟩; have B16 := B15.trans (hb16.mono B15.size))
    | (go_at_call 24; refine (R1.out _ (hG.next B14)).mono ?_; rintro e w15 ⟨rfl, hb15⟩; have B15 := B14.trans (hb15.mono B14.size))
    | (go_at_call 18; refine (K1.out _ (hG.next B13)).mono ?_; rintro e w14 ⟨rfl, hb14⟩; have B14 := B13.trans (hb14.mono B13.size))
    | (go_at_call 23; refine (D1.out _).mono ?_; rintro e w13 ⟨v13, rfl, dd0, -, hb13⟩; have B13 := B12.trans (hb13.mono B12.size); obtain ⟨A13, c13, rfl, hA13⟩ := dd0; obtain ⟨b13, o13, rfl, hb13', hc13⟩ := hA13 (by decide); have dd : SlSp w13 (.slice (some ⟨b13, o13, none⟩) 1 c13) [⟨1, 2, ⟨#[]⟩⟩] := ⟨_, c13, rfl, fun _ => ⟨b13, o13, rfl, hb13', hc13⟩⟩; clear hc13)
    | (go_at_call 22; refine (U1.out _ _ (((litS.out w9).below hb10).below hb11)).mono ?_; rintro e w12 ⟨v12, rfl, hown12, hb12⟩; have B12 := B11.trans (hb12.mono B11.size); obtain ⟨A12, c12, rfl, hA12⟩ := SlSp.of_own hown12; obtain ⟨b12, o12, rfl, hb12', hc12⟩ := hA12 (by decide); obtain ⟨y0, y1, y2⟩ := hc12 0 ⟨1, 3, ⟨#[98]⟩⟩ rfl; simp only [Nat.zero_mul, Nat.add_zero] at y0 y1 y2)
    | (go_at_call 21; refine (M2.out _ _ ((litS.out w9).below hb10)).mono ?_; rintro e w11 ⟨rfl, hb11⟩; have B11 := B10.trans (hb11.mono B10.size))
    | (go_at_call 21; refine (M1.out _ _ (litS.out w9)).mono ?_; rintro e w10 ⟨rfl, hb10⟩; have B10 := (B9.alloc B9.size _).trans (hb10.mono (by have := B9.size; rw [alloc_sz w9]; omega)))
    | (go_at_call 15; refine (P1.out w8 (hG.next (B8.alloc B8.size _))).mono ?_; rintro e w9 ⟨rfl, hb9⟩; have B9 := (B8.alloc B8.size _).trans (hb9.mono (by have := B8.size; rw [alloc_sz w8]; omega)))
    | (go_at_call 13; refine (G2.out _ _ (lit2.out w7) (hG.next (B7.alloc B7.size _))).mono ?_; rintro e w8 ⟨rfl, hb8⟩; have B8 := (B7.alloc B7.size _).trans (hb8.mono (by have := B7.size; rw [alloc_sz w7]; omega)))
    | (go_at_call 13; refine (G1.out _ _ (lit1.out w6) (hG.next (B6.alloc B6.size _))).mono ?_; rintro e w7 ⟨rfl, hb7⟩; have B7 := (B6.alloc B6.size _).trans (hb7.mono (by have := B6.size; rw [alloc_sz w6]; omega)))
    | (go_at_call 10; refine (A2.out _ (hM.below B5)).mono ?_; rintro e w6 ⟨rfl, hb6⟩; have B6 := B5.trans (hb6.mono B5.size); obtain ⟨-, x0, x1, x2⟩ := spot_more (hb5.trans (hb6.mono hb5.size)))
    | (go_at_call 10; refine (A1.out _ (hM.below (B4.alloc B4.size _))).mono ?_; rintro e w5 ⟨rfl, hb5⟩; have B5 := (B4.alloc B4.size _).trans (hb5.mono (by have := B4.size; rw [alloc_sz w4]; omega)))
    | (go_at_call 8; refine (S1.out _).mono ?_; rintro e w4 ⟨rfl, hb4⟩; have B4 := B3.trans (hb4.mono B3.size))
    | (go_at_call 20; refine (T3.out _ (hG.next B2)).mono ?_; rintro e w3 ⟨v3, rfl, -, hb3⟩; have B3 := B2.trans (hb3.mono B2.size))
    | (go_at_call 20; refine (T2.out _ (hG.next B1)).mono ?_; rintro e w2 ⟨v2, rfl, -, hb2⟩; have B2 := B1.trans (hb2.mono B1.size))
    | (go_at_call 20; refine (T1.out _ hG).mono ?_; rintro e w1 ⟨v1, rfl, -, B1⟩))
  go_ret
  exact ⟨rfl, B17.trans (hb18.mono B17.size)⟩

end Go.Proofs.YtocogbllhmiefaaGreatDoor.Lx

namespace Go.Proofs.YtocogbllhmiefaaGreatDoor
open Go Go.Proofs Go.RowKit Go.ChangeShapes Go.WideShapes Go.ChangeAt Go.WideMaps Go.WideElems Lx

namespace Lx
/-- The listed variables of the row. -/
def laidP : List (String × DataW Unit) := Rows.lexNamesRow.laid
theorem gl_of_laidP {W : World} (h : laidMetH Tryz.prog laidP W) : Gl W := by
  rw [MakeChecks.laidMetH_plain _ _ _ (by kernel_rfl)] at h
  have h1 := laid_drop 1 h
  have h4 := laid_drop 4 h
  have h7 := laid_drop 7 h
  have e7 : laidP.drop 7 = ("strings.asciiSpace", Lib.tabData .u8 Lib.asciiSpaceTab) :: laidP.drop 8 := by kernel_rfl
  rw [e7] at h7
  refine ⟨?_, Lib.tabIs_of_head global_space gSpaceType Tryz.underlying135 Tryz.underlying5 byte_cells space_cells h7, ?_⟩
  · obtain ⟨ps, ⟨g, t, cs, f, p, q, hg, _, hv, _, _⟩, _⟩ := h1
    have := size_of_var gBruijn hv
    omega
  · obtain ⟨a, s, hv, _, _, _⟩ := laid_sentinel h4 gErrRange gErrType Tryz.underlying71 row_err Tryz.underlying181 Tryz.underlying183 rfl rfl Tryz.underlying9 err_cells str_cells
    exact ⟨_, _, by have h0 := World.var?_cell gErrRange hv 0; simpa using h0⟩
/-- The library's own integer holds one. -/
theorem mx_of_shape {W : World} (h : W.ShapedOpen Tryz.prog) (hG : Gl W) : Mx W :=
  ⟨by have := hG.1; omega, cell_of_shapedOpen_int (g := 0) (t := 3) (zero := #[.int .i64 0]) (k := .i64) h (of_decide_eq_true (by kernel_rfl)) (by kernel_rfl) rfl (by kernel_rfl) (by kernel_rfl) Tryz.underlying3⟩

/-- A row's form from calls, where the world's shape is kept beside what the row's variables hold. -/
theorem handed_with_shape {H : Type} {enc : TypeId × Value → H} {C : Checked} {os : Os} {f : FuncId} {fn : Func} {s : ChangeSpec} {X : World → Array Value → Prop} (hX : ∀ (w w' : World) (args : Array Value), w.heap = w'.heap → X w args → X w' args)
    (own : ownKnob C.prog.godebug = none) (started : os.Started) (noInit : C.prog.inits.idxOf? f = none) (hfn : C.prog.funcs[f]? = some fn)
    (wit : ∃ (w : World) (tape : Tape) (i : Input), w.os = os ∧ (w.forCall tape i).Shaped C.prog ∧ i.vars = [] ∧ Input.okWide C.prog (w.forCall tape i) .any w.heap.size f i ∧
      ((s.pre enc C.prog fn [] false (w.forCall tape i).memory i.args ∧ X (w.forCall tape i).memory i.args) ∧ sizedMet enc C.prog fn (OpenSpec.ofChange s) false (w.forCall tape i).memory i.args) ∧ ({} : Assume).holds C.prog (lone (Frame.enter C.prog f i.args .normal) [] (w.forCall tape i)))
    (calls : ∀ (W : World) (base : Nat) (args : Array Value) (ds gs : List (DataW H)) (before : List MemPlace), (∀ (j : Nat) t v, fn.params[j]? = some t → args[j]? = some v → Value.okWide C.prog W .any base t v) →
      DataW.Whole enc C.prog fn.params.toList s.vars false W args.toList ds gs before → W.ShapedOpen C.prog → X W args → Calls C.prog f args W fun e W' => ∃ v, e = .returned v ∧ s.post enc C.prog fn false true false false W args v W') :
    ReturnsInHanded {} C os f .any (fun w args => (s.pre enc C.prog fn [] false w args ∧ X w args) ∧ sizedMet enc C.prog fn (OpenSpec.ofChange s) false w args) (s.post enc C.prog fn false true false false) := by
  refine returnsInHanded_of_calls own started noInit wit fun w tape i _ hshape _ hok hpre _ => ?_
  obtain ⟨_, _, _, g, hg, _, _, _, _, hval⟩ := hok
  obtain rfl : g = fn := Option.some.inj (hg.symm.trans hfn)
  obtain ⟨⟨⟨ds, gs, before, hw, _⟩, hx⟩, _⟩ := hpre
  have hw' := DataW.Whole.of_heap (w' := w.forCall tape i) (by rfl) hw
  have hx' : X (w.forCall tape i) i.args := hX _ _ _ (by rfl) hx
  refine (calls (w.forCall tape i) w.heap.size i.args ds gs before hval hw' hshape hx').mono ?_
  rintro e W' ⟨v, rfl, hp⟩
  exact ChangeSpec.post_blind hp
end Lx

set_option maxRecDepth 100000 in
theorem lexNames_lifted (os : Os) (started : os.Started) (H : Type) (enc : TypeId × Value → H) :
    ReturnsInHanded {} Tryz.checked os 6 .any (fun w args => (Rows.lexNamesSpec.pre enc Tryz.prog Tryz.f6 [] false w args ∧ laidMetH Tryz.prog laidP w) ∧ sizedMet enc Tryz.prog Tryz.f6 (OpenSpec.ofChange Rows.lexNamesSpec) false w args)
      (Rows.lexNamesSpec.post enc Tryz.prog Tryz.f6 false true false false) := by
  refine handed_with_shape (C := Tryz.checked) (X := fun w _ => laidMetH Tryz.prog laidP w) (fun _ _ _ hh h => h.of_heap hh) own_knob started (by kernel_rfl) Tryz.func6
    (ChangeSpec.witness_shaped (enc := enc) (C := Tryz.checked) (os := os) (X := fun w _ => laidMetH Tryz.prog laidP w) false (World.laidAll Tryz.prog os laidP) #[] 8 (World.laidAll_os _ _ _) (World.shaped_of_ZipB (by kernel_rfl) (by kernel_rfl)) (by kernel_rfl) (by kernel_rfl) (by kernel_rfl)
      (by rw [MakeChecks.laidMetH_plain _ _ _ (by kernel_rfl)]; exact laidMet_laidAll _ (by kernel_rfl) (by kernel_rfl))) ?_
  intro W base args ds gs before _ hW hsh hL
  have hW' := hW
  obtain ⟨p, q, hA0, hV, rfl, hfz, hnd⟩ := hW
  have hA : DataW.TrodAll enc Tryz.prog W 0 (fun _ => true) true Tryz.f6.params.toList args.toList ds p := hA0
  rw [Tryz.params6] at hA
  obtain ⟨rfl, rfl, rfl⟩ := trodAll_none hA
  obtain ⟨rfl, rfl⟩ := trodVars_none hV
  have hG := gl_of_laidP hL
  clear hA0
  simp only [List.append_nil] at hW'
  refine (lexNames_any W hG (mx_of_shape hsh hG)).mono fun e W' ⟨he, hbw⟩ => ?_
  subst he
  exact ⟨_, rfl, post_flat hW' rfl rfl (fun _ _ _ => trodAll_mk1 (shut_bool Tryz.underlying4 _)) (fun _ => trodAll_mk0) hbw (ok_one (by kernel_rfl) rfl (okWide_bool_mk Tryz.underlying4 _))⟩

theorem lexNames_holds : Rows.LexNamesSaid :=
  OpenClaim.holds_of_wide 6 Tryz.f6 rfl rfl rfl rfl rfl rfl rfl ⟨rfl, rfl, rfl, rfl, rfl⟩ rfl rfl rfl rfl rfl (by kernel_rfl) Tryz.func6 (by kernel_rfl)
    (of_decide_eq_true (by kernel_rfl)) (by unfold Func.isWrapper; first | (rw [if_pos (by decide +kernel)]; kernel_rfl) | (rw [if_neg (by decide +kernel)]; exact ⟨rfl, rfl⟩))
    (fun os started H enc _ => lexNames_lifted os started H enc)

/-- The tied card. -/
theorem lexNames_card : Rows.LexNamesCardSaid :=
  Claim7.holds_tied_plain_at .later [] [.data, .data, .data, .data, .sentinel, .sentinel, .listed, .data, .pinned] true (true, "da46115be19a5dc61835579660c6982e2853f5fc5ad8fd014635bb33d4e43ad9") true
    lexNames_holds (fun _ h => by cases h) (by kernel_rfl) (fun _ h => by cases h) lexNames_row_tie rfl ⟨rfl, rfl⟩ (by kernel_rfl) rfl
    (fun f fn hf hfn => by
      obtain rfl : f = 6 := Option.some.inj ((show Tryz.prog.funcNamed "riposte/ripostelaw01.LexNames" = some 6 by kernel_rfl).symm.trans hf) |>.symm
      obtain rfl : fn = Tryz.f6 := (Option.some.inj (Tryz.func6.symm.trans hfn)).symm
      exact ⟨by kernel_rfl, fun j t ht => by
        rw [Tryz.params6] at ht
        simp at ht⟩)
    (by kernel_rfl)
#print axioms lexNames_card

end Go.Proofs.YtocogbllhmiefaaGreatDoor
