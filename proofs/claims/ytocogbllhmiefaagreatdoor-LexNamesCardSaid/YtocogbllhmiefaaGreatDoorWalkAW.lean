/- Kept: how many tokens stay when a text is spliced. -/
import Derived.Test.YtocogbllhmiefaaGreatDoorWalkAU
import Derived.Test.YtocogbllhmiefaaGreatDoorSpecE
import Derived.Test.YtocogbllhmiefaaGreatDoorWalkU
namespace Go.Proofs.YtocogbllhmiefaaGreatDoor.Lx
open Go Go.Proofs Go.RowKit Go.Shelf

def spAgg (x : Sp) : Value := .agg #[.int .i64 x.lo, .int .i64 x.hi, .string x.text]
def KeptP (s : ByteArray) (x : Sp) (w : World) (e : Ending) (w' : World) : Prop :=
  e = .returned (.tuple #[.int .i64 (keptHead s x : Int), .int .i64 (keptTail s x : Int), .int .i64 (keptErr s x : Int)]) ∧ Below w.heap.size w w'

theorem SlTk.cut {W : World} {g c h : Nat} {l : List Tk} (hS : SlTk W (.slice (some ⟨g, 0, none⟩) l.length c) l) (hh : h ≤ l.length) (hc : l.length ≤ c) :
    SlTk W (.slice (if c = h then some ⟨g, 0, none⟩ else some ⟨g, h * 3, none⟩) (l.length - h) (c - h)) (l.drop h) := by
  refine ⟨_, _, by rw [List.length_drop], fun h0 => ?_⟩
  rw [List.length_drop] at h0
  rw [if_neg (by omega)]
  obtain ⟨A, q, hv, hA⟩ := hS
  injection hv with e1 _ e3
  subst e1
  obtain ⟨b, off, hb, hlt, hc'⟩ := hA (by omega)
  injection hb with hb
  injection hb with b1 b2
  subst b1
  subst b2
  refine ⟨g, h * 3, rfl, hlt, fun i t ht => ?_⟩
  rw [List.getElem?_drop] at ht
  obtain ⟨p1, p2, p3⟩ := hc' (h + i) t ht
  rw [show (0 + (h + i) * 3 : Nat) = h * 3 + i * 3 by omega] at p1 p2 p3
  exact ⟨p1, p2, p3⟩
theorem SlTk.cutE {W : World} {l : List Tk} {A : Option Addr} {h : Nat} (hl : l.length = h) : SlTk W (.slice A (l.length - h) 0) (l.drop h) :=
  ⟨A, 0, by rw [List.length_drop], fun h0 => absurd h0 (by rw [List.length_drop]; omega)⟩
theorem SlTk.cut0 {W : World} {l : List Tk} {A : Option Addr} {c h : Nat} (hl : l.length = 0) : SlTk W (.slice A 0 c) (l.drop h) :=
  ⟨A, c, by rw [List.length_drop, hl, Nat.zero_sub], fun h0 => absurd h0 (by rw [List.length_drop]; omega)⟩

set_option maxRecDepth 100000 in
set_option maxHeartbeats 4000000 in
theorem kept_good (s : ByteArray) (x : Sp) (w : World) (hs : s.size ≤ 100000) (hx : x.text.size ≤ 100000) (hG : Gl w) (h0 : keptErr s x = 0) :
    Calls Tryz.prog 18 #[.string s, .agg #[.int .i64 x.lo, .int .i64 x.hi, .string x.text]] w (KeptP s x w) := by
  obtain ⟨e1, e2, e3⟩ := kept_parts h0
  have hts : (applied s [x]).size ≤ 2500 := (text_ok (text_after e1).1).1
  have hap := fun W a ha => apply_any s a [x] W hs ha (by simp) (by simpa using hx)
  rw [e1] at hap
  have htk1 := fun W hG' => tokens_any s W hs hG'
  have htk2 := fun W hG' => tokens_any (applied s [x]) W (by omega) hG'
  rw [e2] at htk1
  rw [e3] at htk2
  have Hh := Lib.hid (show keptHead s x = comL sameTk (tokens s).1 (tokens (applied s [x])).1 from if_pos h0)
  have Ht := Lib.hid (show keptTail s x = comL (moveT (((applied s [x]).size : Int) - s.size)) ((tokens s).1.drop (comL sameTk (tokens s).1 (tokens (applied s [x])).1)).reverse ((tokens (applied s [x])).1.drop (comL sameTk (tokens s).1 (tokens (applied s [x])).1)).reverse from by
    rw [← Hh.out]; exact if_pos h0)
  have He := Lib.hid h0
  have Hlit : Hid (SlSp ((w.alloc (.cells #[.int .i64 x.lo, .int .i64 x.hi, .string x.text] 40)).alloc (.cells #[.int .i64 x.lo, .int .i64 x.hi, .string x.text] 40)) (.slice (some ⟨w.heap.size + 1, 0, none⟩) 1 1) [x]) := by
    have h := SlSp.lit (w.alloc (.cells #[.int .i64 x.lo, .int .i64 x.hi, .string x.text] 40)) [x] 1
    rw [alloc_sz] at h
    exact h
  have Hb0 := Lib.hid (((Below.refl w.heap.size w).alloc (Nat.le_refl _) (.cells #[.int .i64 x.lo, .int .i64 x.hi, .string x.text] 40)).alloc (by rw [alloc_sz]; omega) (.cells #[.int .i64 x.lo, .int .i64 x.hi, .string x.text] 40))
  have hss : s.size ≤ 2500 := (text_ok (tokens_parts e2).1).1
  have hn1 := (tokens_parts e2).2.2.2.2
  have hn2 := (tokens_parts e3).2.2.2.2
  have hpos : ∀ y ∈ (tokens s).1, y.pos ≤ 100000 := by
    intro y hy
    rw [(tokens_parts e2).2.1] at hy
    have := toks_lt s _ 0 (Nat.le_refl _) y hy
    omega
  have hle := comL_le sameTk (tokens s).1 (tokens (applied s [x])).1
  generalize applied s [x] = t at *
  generalize (tokens s).1 = L at *
  generalize (tokens t).1 = M at *
  generalize (tokens s).2.1 = p1 at *
  generalize (tokens t).2.1 = p2 at *
  have hco := fun W va vb ha hb => commonT_start va vb L M W ha hb (by omega) (by omega)
  generalize comL sameTk L M = h at *
  have Hap := Lib.hid hap
  have Htk1 := Lib.hid htk1
  have Htk2 := Lib.hid htk2
  have Hco := Lib.hid hco
  have Hpos := Lib.hid hpos
  clear hap htk1 htk2 hco hpos e1 e2 e3 h0
  go_enter Tryz.func18, Tryz.ntmps18
  go_wp2_with (first
    | (go_at_call 44; refine (Hco.out _ _ _ (hS2.below ((Below.refl w3.heap.size w3).alloc (Nat.le_refl _) _)) (hS3.below ((Below.refl w3.heap.size w3).alloc (Nat.le_refl _) _))).mono ?_; rintro e w4 ⟨rfl, hb4⟩)
    | (go_at_call 20; refine (Htk2.out _ (hG.next hB2)).mono ?_; rintro e w3 ⟨v3, rfl, hown3, hb3⟩; have hB3 := hB2.trans (hb3.mono hB2.size); obtain ⟨A3, c3, rfl⟩ := own_form hown3; have hS2 := (SlTk.of_own hown2).below hb3; have hS3 := SlTk.of_own hown3)
    | (go_at_call 20; refine (Htk1.out _ (hG.next hB1)).mono ?_; rintro e w2 ⟨v2, rfl, hown2, hb2⟩; have hB2 := hB1.trans (hb2.mono hB1.size); obtain ⟨A2, c2, rfl⟩ := own_form hown2)
    | (go_at_call 26; refine (Hap.out _ _ Hlit.out).mono ?_; rintro e w1 ⟨rfl, hb1⟩; have hB1 := Hb0.out.trans (hb1.mono Hb0.out.size)))
  have hz4 := hb4.size
  rw [alloc_sz] at hz4
  have hbx : w3.heap.size < w4.heap.size := by omega
  have hcx : w4.cell? ⟨w3.heap.size, 0, none⟩ = some (.int .i64 ((t.size : Int) - s.size)) := (hb4.cell (p := ⟨w3.heap.size, 0, none⟩) (by rw [alloc_sz]; exact Nat.lt_succ_self _)).trans (cell_new w3 _ _ 0)
  have hB4 : Below w.heap.size w w4 := (hB3.alloc hB3.size _).trans (hb4.mono (by rw [alloc_sz]; have := hB3.size; omega))
  have hb5 : Below w3.heap.size w3 w4 := ((Below.refl w3.heap.size w3).alloc (Nat.le_refl _) _).trans (hb4.mono (by rw [alloc_sz]; omega))
  have hS2' := hS2.below hb5
  have hS3' := hS3.below hb5
  have hend := fun W va vb h1 h2 h3 h4 => commonT_end va vb (L.drop h) (M.drop h) ((t.size : Int) - s.size) w3.heap.size W h1 h2 (by simp; omega) (by simp; omega) h3 h4 (fun y hy => Hpos.out y (List.mem_of_mem_drop hy)) (by omega) (by omega)
  rw [← Ht.out] at hend
  have Hend := Lib.hid hend
  have HS2 := Lib.hid hS2'
  have HS3 := Lib.hid hS3'
  have HB4 := Lib.hid hB4
  have o2 := hown2.2
  have o3 := hown3.2
  clear hend hS2' hS3' hS2 hS3 hb1 hb2 hb3 hb4 hb5 hB1 hB2 hB3 hB4 hown2 hown3
  rcases o2 with ⟨h2, h2z⟩ | ⟨g2, q2, cur2, h2, -, -, hc2, hm2, -, -⟩
  · injection h2 with i1 i0 i2
    obtain rfl := List.eq_nil_of_length_eq_zero h2z
    subst i1 i2
    obtain rfl : h = 0 := by have := hle.1; simpa using this
    rcases o3 with ⟨h3, h3z⟩ | ⟨g3, q3, cur3, h3, -, -, hc3, hm3, -, -⟩
    · injection h3 with j1 j0 j2
      obtain rfl := List.eq_nil_of_length_eq_zero h3z
      subst j1 j2
      have HC2 := Lib.hid (show SlTk w4.drew (.slice none 0 0) (List.drop 0 ([] : List Tk)) from ⟨none, 0, rfl, fun h0 => absurd h0 (by decide)⟩)
      have HC3 := Lib.hid (show SlTk w4.drew (.slice none 0 0) (List.drop 0 ([] : List Tk)) from ⟨none, 0, rfl, fun h0 => absurd h0 (by decide)⟩)
      go_region_with (go_at_call 44; refine (Hend.out w4.drew _ _ HC2.out HC3.out hbx hcx).mono ?_; rintro e w5 ⟨rfl, hb6⟩)
      all_goals (
        go_wp2
        go_ret3
        exact ⟨by rw [Hh.out, He.out]; rfl, HB4.out.drew.trans (hb6.mono HB4.out.size)⟩)
    · injection h3 with j1 _ j2
      subst j1 j2
      have HC2 := Lib.hid (show SlTk w4.drew (.slice none 0 0) (List.drop 0 ([] : List Tk)) from ⟨none, 0, rfl, fun h0 => absurd h0 (by decide)⟩)
      have HC3 := Lib.hid (show SlTk w4.drew (.slice (some ⟨g3, 0, none⟩) M.length c3) (List.drop 0 M) from HS3.out.below (Below.refl w4.heap.size w4).drew)
      go_region_with (go_at_call 44; refine (Hend.out w4.drew _ _ HC2.out HC3.out hbx hcx).mono ?_; rintro e w5 ⟨rfl, hb6⟩)
      all_goals (
        go_wp2
        go_ret3
        exact ⟨by rw [Hh.out, He.out]; rfl, HB4.out.drew.trans (hb6.mono HB4.out.size)⟩)
  · rcases o3 with ⟨h3, h3z⟩ | ⟨g3, q3, cur3, h3, -, -, hc3, hm3, -, -⟩
    · injection h2 with i1 _ i2
      injection h3 with j1 j0 j2
      obtain rfl := List.eq_nil_of_length_eq_zero h3z
      subst i1 i2 j1 j2
      obtain rfl : h = 0 := by have := hle.2; simpa using this
      have HC2 := Lib.hid (show SlTk w4.drew (.slice (some ⟨g2, 0, none⟩) L.length c2) (List.drop 0 L) from HS2.out.below (Below.refl w4.heap.size w4).drew)
      have HC3 := Lib.hid (show SlTk w4.drew (.slice none 0 0) (List.drop 0 ([] : List Tk)) from ⟨none, 0, rfl, fun h0 => absurd h0 (by decide)⟩)
      go_region_with (go_at_call 44; refine (Hend.out w4.drew _ _ HC2.out HC3.out hbx hcx).mono ?_; rintro e w5 ⟨rfl, hb6⟩)
      all_goals (
        go_wp2
        go_ret3
        exact ⟨by rw [Hh.out, He.out]; rfl, HB4.out.drew.trans (hb6.mono HB4.out.size)⟩)
    · injection h2 with i1 _ i2
      injection h3 with j1 _ j2
      subst i1 i2 j1 j2
      obtain ⟨r1, r2⟩ := hle
      have hC2 : (c2 = h ∧ SlTk w4.drew (.slice (some ⟨g2, 0, none⟩) (L.length - h) 0) (L.drop h)) ∨ (¬ c2 = h ∧ SlTk w4.drew (.slice (some ⟨g2, h * 3, none⟩) (L.length - h) (c2 - h)) (L.drop h)) := by
        by_cases k : c2 = h
        · exact .inl ⟨k, SlTk.cutE (by omega)⟩
        · have q := SlTk.cut (W := w4.drew) (h := h) (HS2.out.below (Below.refl w4.heap.size w4).drew) r1 hc2
          rw [if_neg k] at q
          exact .inr ⟨k, q⟩
      have hC3 : (c3 = h ∧ SlTk w4.drew (.slice (some ⟨g3, 0, none⟩) (M.length - h) 0) (M.drop h)) ∨ (¬ c3 = h ∧ SlTk w4.drew (.slice (some ⟨g3, h * 3, none⟩) (M.length - h) (c3 - h)) (M.drop h)) := by
        by_cases k : c3 = h
        · exact .inl ⟨k, SlTk.cutE (by omega)⟩
        · have q := SlTk.cut (W := w4.drew) (h := h) (HS3.out.below (Below.refl w4.heap.size w4).drew) r2 hc3
          rw [if_neg k] at q
          exact .inr ⟨k, q⟩
      rcases hC2 with ⟨k2, hC2⟩ | ⟨k2, hC2⟩ <;> rcases hC3 with ⟨k3, hC3⟩ | ⟨k3, hC3⟩
      all_goals (
        have HC2 := Lib.hid hC2
        have HC3 := Lib.hid hC3
        clear hC2 hC3
        go_region_with (go_at_call 44; refine (Hend.out w4.drew _ _ HC2.out HC3.out hbx hcx).mono ?_; rintro e w5 ⟨rfl, hb6⟩)
        all_goals (
          go_wp2
          go_ret3
          exact ⟨by rw [Hh.out, He.out]; rfl, HB4.out.drew.trans (hb6.mono HB4.out.size)⟩))

end Go.Proofs.YtocogbllhmiefaaGreatDoor.Lx
