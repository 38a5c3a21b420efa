/- Splices of package lex: what they do to a text (editsOf). -/
import Derived.Test.YthjnoboceibjjaaGreatDoorWalkJ
import Derived.RegionTactic
import Derived.ChangeAlike
import Derived.BigRegion
namespace Go.Proofs.YthjnoboceibjjaaGreatDoor.Lx
open Go Go.Proofs Go.RowKit Go.Shelf

def edVals (x : Ed) : List Value := [.int .i64 x.sp.lo, .int .i64 x.sp.hi, .string x.sp.text, .string x.old, .int .i64 x.place]
def edCells (l : List Ed) : List Value := l.flatMap edVals
theorem edCells_snoc (l : List Ed) (t : Ed) : edCells (l ++ [t]) = edCells l ++ edVals t := by simp [edCells]
theorem ed_info : (Tryz.prog.info? 87).map (fun i => (i.zero, i.size, i.bytes)) = some (some (.agg #[.int .i64 0, .int .i64 0, .string ⟨#[]⟩, .string ⟨#[]⟩, .int .i64 0]), 5, 56) := by kernel_rfl

set_option maxHeartbeats 400000 in
theorem grows_any (x : Ed) (w : World) (h1 : x.sp.text.size ≤ 1000000) (h2 : x.old.size ≤ 1000000) :
    Calls Tryz.prog 46 #[.agg #[.int .i64 x.sp.lo, .int .i64 x.sp.hi, .string x.sp.text, .string x.old, .int .i64 x.place]] w fun e w' => e = .returned (.int .i64 (grow x)) ∧ w.alloc (.cells #[.int .i64 x.sp.lo, .int .i64 x.sp.hi, .string x.sp.text, .string x.old, .int .i64 x.place] 87) = w' := by
  go_enter Tryz.func46, Tryz.ntmps46
  go_wp2
  go_ret
  exact ⟨rfl, rfl⟩

theorem add_zero_off (g n : Nat) : (({ block := g, off := 0 } : Addr).add n) = ⟨g, n, none⟩ := by
  unfold Addr.add
  split
  · rename_i h; subst h; rfl
  · simp
theorem lit_list (W : World) (t : TypeId) (B : Nat) (hB : B = W.heap.size) (news : List Value) (j : Nat) (u : Value) (h : news[j]? = some u) :
    (W.alloc (.cells news.toArray t)).drew.cell? (({ block := B, off := 0 } : Addr).add j) = some u := by
  subst hB
  rw [add_zero_off]
  show (W.alloc (.cells news.toArray t)).cell? _ = _
  rw [cell_new]
  simpa using h

set_option maxRecDepth 100000 in
set_option maxHeartbeats 1000000 in
theorem editsOf_any (s : ByteArray) (a : Value) (l : List Sp) (w : World) (hs : s.size ≤ 100000) (ha : SlSp w a l) (hl : l.length ≤ 1000) (ht : ∀ x ∈ l, x.text.size ≤ 1000000) (hr : right s.size l = true) :
    Calls Tryz.prog 32 #[.string s, a] w fun e w' => ∃ v, e = .returned v ∧ w'.ownsRow w.heap.size 87 5 v (eds s l).length (edCells (eds s l)) ∧ Below w.heap.size w w' := by
  obtain ⟨A, ca, rfl, hA⟩ := ha
  obtain ⟨i0, hi, hz0, hz1, hz2⟩ := info_parts ed_info
  go_enter Tryz.func32, Tryz.ntmps32
  go_wp2
  go_loopw [5, 6, 12] (fun v t i wr => ∃ (k : Nat) (a g : Int) (done : List Ed), k ≤ l.length ∧ i = .int .i64 k ∧ t = .int .i64 g ∧ 0 ≤ a ∧ rightFrom s.size a (l.drop k) = true ∧ eds s l = done ++ edsFrom s g (l.drop k) ∧ done.length = k ∧
      -(k * 1000000 : Int) ≤ g ∧ g ≤ (k * 1000000 : Int) ∧ wr.ownsRow w.heap.size 87 5 v done.length (edCells done) ∧ Below w.heap.size w wr) (fun _ _ i _ => l.length - (intOf i).toNat)
  case atStart => exact ⟨0, 0, 0, [], Nat.zero_le _, rfl, rfl, by omega, hr, rfl, rfl, by omega, by omega, World.ownsRow_nil _ _ _ _, Below.refl _ _⟩
  case round =>
    obtain ⟨k, at_, g, done, hk, rfl, rfl, h0, hri, hE, hdl, hg1, hg2, hown, hbw⟩ := hrel
    by_cases hlt : k < l.length
    · obtain ⟨b1, o1, rfl, hb1, hc1⟩ := hA (by omega)
      obtain ⟨p1, p2, p3⟩ := hc1 k _ (List.getElem?_eq_getElem hlt)
      have p1' := (hbw.cell (p := ⟨b1, o1 + k * 3, none⟩) hb1).trans p1
      have p2' := (hbw.cell (p := ⟨b1, o1 + k * 3 + 1, none⟩) hb1).trans p2
      have p3' := (hbw.cell (p := ⟨b1, o1 + k * 3 + 2, none⟩) hb1).trans p3
      clear p1 p2 p3 hc1 hA
      have hd : l.drop k = l[k] :: l.drop (k + 1) := List.drop_eq_getElem_cons hlt
      have htx := ht _ (List.getElem_mem hlt)
      rw [hd] at hri hE
      generalize l[k] = x at p1' p2' p3' hri hE htx
      obtain ⟨q1, q2, q3, hri'⟩ := rightFrom_cons hri
      rw [edsFrom] at hE
      have HE := Lib.hid hE
      have HR := Lib.hid hri'
      have HD := Lib.hid hdl
      clear hE hri' hri hd hdl
      obtain ⟨xlo, xhi, xt⟩ := x
      dsimp only at p1' p2' p3' htx q1 q2 q3 HE HR
      obtain ⟨lo, rfl⟩ := Int.eq_ofNat_of_zero_le (show 0 ≤ xlo by omega)
      obtain ⟨hi_, rfl⟩ := Int.eq_ofNat_of_zero_le (show 0 ≤ xhi by omega)
      have hmx : Tryz.prog.follows .mixedOrders = true := by kernel_rfl
      have q4 : lo ≤ hi_ := by omega
      have q5 : hi_ ≤ s.size := by omega
      go_wp2
      go_region
      have hesz : (s.extract lo hi_).size = hi_ - lo := by simp; omega
      have HSz := Lib.hid hesz
      clear hesz
      have hgr := fun W => grows_any ⟨⟨(lo : Int), (hi_ : Int), xt⟩, s.extract lo hi_, (lo : Int) + g⟩ W htx (by show (s.extract lo hi_).size ≤ _; rw [HSz.out]; omega)
      have Hgr := Lib.hid hgr
      clear hgr
      have hgb : -1000000 ≤ grow ⟨⟨(lo : Int), (hi_ : Int), xt⟩, s.extract lo hi_, (lo : Int) + g⟩ ∧ grow ⟨⟨(lo : Int), (hi_ : Int), xt⟩, s.extract lo hi_, (lo : Int) + g⟩ ≤ 1000000 := by
        unfold grow
        dsimp only
        rw [HSz.out]
        omega
      obtain ⟨hgb1, hgb2⟩ := hgb
      have hdk : done.length ≤ 1000 := by have := HD.out; omega
      have hbz := hbw.size
      have hb1 : Below w.heap.size w ((((wr.alloc (.cells #[.int .i64 (lo : Int), .int .i64 (hi_ : Int), .string xt] 40)).alloc (.cells #[.int .i64 (lo : Int), .int .i64 (hi_ : Int), .string xt, .string (s.extract lo hi_), .int .i64 ((lo : Int) + g)] 87)).alloc (.cells #[.int .i64 (lo : Int), .int .i64 (hi_ : Int), .string xt, .string (s.extract lo hi_), .int .i64 ((lo : Int) + g)] 87)).alloc (.cells #[.int .i64 (lo : Int), .int .i64 (hi_ : Int), .string xt, .string (s.extract lo hi_), .int .i64 ((lo : Int) + g)] 87)).drew :=
        ((((hbw.alloc hbz _).alloc (by simp; omega) _).alloc (by simp; omega) _).alloc (by simp; omega) _).drew
      have Hb1 := Lib.hid hb1
      clear hb1
      go_wp2_with (first
        | (go_at_call 46; refine (Hgr.out _).mono ?_; rintro e w1 ⟨rfl, rfl⟩)
        | (at_builtin; refine wpList_append_own _ rfl _ _ 64 rfl w.heap.size 87 i0 _ 5 56 Tryz.underlying64 hi hz0 hz1 hz2 rfl (by omega) _ _ _ rfl ((((hown.alloc _).alloc _).alloc _).alloc _).drew ⟨wr.heap.size + 1 + 1 + 1, 0, none⟩ 1 1 (edVals ⟨⟨(lo : Int), (hi_ : Int), xt⟩, s.extract lo hi_, (lo : Int) + g⟩) rfl rfl (lit_list _ _ _ (by simp) _) (fun u hu => by simp [edVals] at hu; rcases hu with rfl | rfl | rfl | rfl | rfl <;> rfl) (by unfold maxLen; omega) (by omega) (by simp; omega) ?_; intro v' w2 hown' hgrow _))
      go_roundw
      case rel =>
        refine ⟨k + 1, hi_, g + grow ⟨⟨(lo : Int), (hi_ : Int), xt⟩, s.extract lo hi_, (lo : Int) + g⟩, done ++ [⟨⟨(lo : Int), (hi_ : Int), xt⟩, s.extract lo hi_, (lo : Int) + g⟩], by omega, by go_num, rfl, by omega, HR.out, ?_, by have := HD.out; simp; omega, by omega, by omega, ?_, ?_⟩
        · rw [HE.out]; simp [grow]
        · rw [edCells_snoc, List.length_append]; exact hown'
        · exact Hb1.out.grown hgrow Hb1.out.size (fun j hj => (World.ownsRow.lt hown j hj).1)
      case measure => simp [intOf]; omega
    · have hfin : eds s l = done := by rw [hE, List.drop_of_length_le (by omega), edsFrom, List.append_nil]
      have Hf := Lib.hid hfin
      clear hfin hE hri hA
      go_wp2
      go_ret
      exact ⟨_, rfl, by rw [Hf.out]; exact hown, hbw⟩

end Go.Proofs.YthjnoboceibjjaaGreatDoor.Lx
