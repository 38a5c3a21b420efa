/- The document's own All, Tokens and Notes. -/
import Derived.Test.YtocogbllhmiefaaGreatDoorWalkAF
import Derived.Test.YtocogbllhmiefaaGreatDoorSpecH
import Derived.Maps.AppendAt
namespace Go.Proofs.YtocogbllhmiefaaGreatDoor.Lx
open Go Go.Proofs Go.RowKit Go.Shelf

/-- Two values of the call's own that do not share a row. -/
def Apart (v u : Value) : Prop := v.ownBlock = none ∨ v.ownBlock ≠ u.ownBlock
theorem Apart.kept {W W' : World} {base : Nat} {e : TypeId} {size n : Nat} {v u : Value} {xs : List Value} (h : W.ownsRow base e size v n xs) (ha : Apart v u) (hg : W.grownBy W' u.ownBlock) : W'.ownsRow base e size v n xs := by
  refine h.kept hg ?_
  rcases h.2 with ⟨rfl, _⟩ | ⟨g, cap, cur, rfl, _⟩
  · exact .inl rfl
  · refine .inr fun e' => ?_
    rcases ha with h1 | h1
    · simp [Value.ownBlock] at h1
    · exact h1 e'
theorem own_none_or_lt {W : World} {base : Nat} {e : TypeId} {size n : Nat} {v : Value} {xs : List Value} (h : W.ownsRow base e size v n xs) : v.ownBlock = none ∨ ∃ g, v.ownBlock = some g ∧ g < W.heap.size := by
  cases hv : v.ownBlock with
  | none => exact .inl rfl
  | some g => exact .inr ⟨g, rfl, (World.ownsRow.lt h g hv).2⟩
/-- Behind an append to u: v is still apart. -/
theorem Apart.next {W : World} {base : Nat} {e : TypeId} {size n : Nat} {v u u' : Value} {xs : List Value} (h : W.ownsRow base e size v n xs) (ha : Apart v u) {H : Nat} (hH : W.heap.size ≤ H) (hu : u'.ownBlock = u.ownBlock ∨ u'.ownBlock = some H) : Apart v u' := by
  rcases own_none_or_lt h with h0 | ⟨g, hg, hlt⟩
  · exact .inl h0
  · refine .inr ?_
    rcases hu with hu | hu
    · rw [hu]
      rcases ha with h1 | h1
      · rw [hg] at h1; cases h1
      · exact h1
    · rw [hu, hg]
      intro e
      injection e with e
      omega
theorem Apart.symm {W : World} {base : Nat} {e : TypeId} {size n : Nat} {v u : Value} {xs : List Value} (_h : W.ownsRow base e size u n xs) (ha : Apart v u) : Apart u v := by
  cases hu : u.ownBlock with
  | none => exact .inl hu
  | some g =>
    refine .inr ?_
    rcases ha with h1 | h1
    · rw [h1, hu]; simp
    · exact fun e => h1 e.symm

theorem ownsRow_below {W W' : World} {base : Nat} {e : TypeId} {size n : Nat} {v : Value} {xs : List Value} (h : W.ownsRow base e size v n xs) (hb : Below W.heap.size W W') : W'.ownsRow base e size v n xs := by
  refine h.kept (row := none) ⟨hb.os, hb.tape, hb.output, hb.size, fun i hi _ => hb.block i hi⟩ ?_
  rcases h.2 with ⟨rfl, _⟩ | ⟨g, cap, cur, rfl, _⟩
  · exact .inl rfl
  · exact .inr (by simp [Value.ownBlock])
/-- The comment that begins at a place. -/
theorem note_piece {s : ByteArray} {a : Nat} (ha : a < s.size) (h3 : cls (bt s a) = 3) :
    pieceEnd s a = runEnd notFeed s a ∧ a < runEnd notFeed s a ∧ runEnd notFeed s a ≤ s.size ∧ (s.extract a (runEnd notFeed s a)).size = runEnd notFeed s a - a ∧
    (piece s a).tk = ⟨5, (s.extract a (runEnd notFeed s a)).extract 1 (s.extract a (runEnd notFeed s a)).size, a⟩ := by
  have hp : pieceEnd s a = runEnd notFeed s a := by unfold pieceEnd; rw [if_pos h3]
  have hlt := lt_pieceEnd ha
  have hle := pieceEnd_le ha
  rw [hp] at hlt hle
  have hb0 : bt (s.extract a (runEnd notFeed s a)) 0 = bt s a := by rw [bt_extract (by omega)]; rfl
  have h126 : bt s a = 126 := (cls_tilde _ (bt_lt s a)).1 h3
  refine ⟨hp, hlt, hle, by simp; omega, ?_⟩
  show (⟨(kindOf (s.extract a (pieceEnd s a))).1, trimT (s.extract a (pieceEnd s a)), a⟩ : Tk) = _
  rw [hp]
  unfold kindOf trimT
  rw [hb0, if_pos h3, if_pos h126]

/-- A box that was made ahead of an append is as it was. -/
theorem box_kept {W w2 : World} {base : Nat} {e : TypeId} {size n : Nat} {v : Value} {xs : List Value} (h : W.ownsRow base e size v n xs) {cs : Array Value} {t : TypeId} {o : Obj} (hg : ((W.alloc (.cells cs t)).alloc o).grownBy w2 v.ownBlock) (i : Nat) :
    w2.cell? ⟨W.heap.size, i, none⟩ = cs[i]? := by
  have hne : some W.heap.size ≠ v.ownBlock := by
    intro e
    have := (World.ownsRow.lt h _ e.symm).2
    omega
  have h1 := hg.block W.heap.size (by rw [alloc_sz, alloc_sz]; omega) hne
  have h2 : ((W.alloc (.cells cs t)).alloc o).heap[W.heap.size]? = (W.alloc (.cells cs t)).heap[W.heap.size]? := Below.heap_alloc (W.alloc (.cells cs t)) o W.heap.size (by rw [alloc_sz]; omega)
  exact (cell_of_row w2 W.heap.size i cs t (0, 0) (h1.trans (h2.trans (heap_alloc_new W _))))
/-- What the document's own All answers. -/
def AllP (s : ByteArray) (w : World) (e : Ending) (w' : World) : Prop :=
  ∃ v u, e = .returned (.tuple #[v, u, .int .i64 ((collect (piecesFrom s 0) []).2.1 : Int), .int .i64 ((collect (piecesFrom s 0) []).2.2 : Int)]) ∧
    w'.ownsRow w.heap.size 47 3 v (collect (piecesFrom s 0) []).1.length (tkCells (collect (piecesFrom s 0) []).1) ∧ Below w.heap.size w w'
theorem AllP.bad {s : ByteArray} {w w' : World} {pos err : Nat} {p e : Int} (h : collect (piecesFrom s 0) [] = ([], pos, err)) (hp : p = (pos : Int)) (he : e = (err : Int)) (hb : Below w.heap.size w w') :
    AllP s w (.returned (.tuple #[.slice none 0 0, .slice none 0 0, .int .i64 p, .int .i64 e])) w' := by
  refine ⟨.slice none 0 0, .slice none 0 0, ?_, ?_, hb⟩
  · rw [h, hp, he]
  · rw [h]; exact World.ownsRow_nil _ _ _ _
theorem AllP.good {s : ByteArray} {w w' : World} {acc : List Tk} {v u : Value} (h : collect (piecesFrom s 0) [] = (acc, 0, 0)) (ho : w'.ownsRow w.heap.size 47 3 v acc.length (tkCells acc)) (hb : Below w.heap.size w w') :
    AllP s w (.returned (.tuple #[v, u, .int .i64 0, .int .i64 0])) w' := by
  refine ⟨v, u, ?_, ?_, hb⟩
  · rw [h]; rfl
  · rw [h]; exact ho

set_option maxRecDepth 100000 in
set_option maxHeartbeats 8000000 in
theorem all_any (s : ByteArray) (w : World) (hs : s.size ≤ 100000) :
    Calls Tryz.prog 77 #[.string s] w (AllP s w) := by
  obtain ⟨i0, hi, hz0, hz1, hz2⟩ := info_parts tk_info
  go_enter Tryz.func77, Tryz.ntmps77
  go_wp2
  go_loopw [6, 7, 8] (fun v u i wr => ∃ (a nn : Nat) (acc : List Tk) (ns : List Value), a ≤ s.size ∧ i = .int .i64 a ∧ collect (piecesFrom s 0) [] = collect (piecesFrom s a) acc ∧ acc.length ≤ 900 ∧ nn ≤ a ∧ Apart v u ∧
    wr.ownsRow w.heap.size 47 3 v acc.length (tkCells acc) ∧ wr.ownsRow w.heap.size 47 3 u nn ns ∧ Below w.heap.size w wr) (fun _ _ i _ => s.size - (intOf i).toNat)
  case atStart => exact ⟨0, 0, [], [], Nat.zero_le _, rfl, rfl, by simp, Nat.le_refl _, .inl rfl, World.ownsRow_nil _ _ _ _, World.ownsRow_nil _ _ _ _, Below.refl _ _⟩
  case round =>
    obtain ⟨a, nn, acc, ns, ha, rfl, hC, hal, hnn, hap, hown, hownN, hbw⟩ := hrel
    have HC := Lib.hid hC
    clear hC
    have hbz := hbw.size
    obtain ⟨A1, c1, rfl⟩ := own_form hown
    obtain ⟨A2, c2, rfl⟩ := own_form hownN
    by_cases hlt : a < s.size
    · have hc := bt_eq s a hlt
      by_cases h2 : cls (bt s a) = 2
      · have Hs := Lib.hid (HC.out.trans (congrArg (fun l => collect l acc) (pieces_blank hlt h2)))
        have h3210 := (cls_blank _ (bt_lt s a)).1 h2
        by_cases h32 : bt s a = 32
        · have q1 : ((s[a].toNat : Int) == 32) = true := by rw [hc, h32]; rfl
          clear h2 hc h3210 h32
          go_wp2
          go_roundw
          case rel => exact ⟨a + 1, nn, acc, ns, by omega, by go_num, Hs.out, hal, by omega, hap, hown, hownN, hbw⟩
          case measure => simp [intOf]; omega
        · have h10 : bt s a = 10 := h3210.resolve_left h32
          have q1 : ((s[a].toNat : Int) == 32) = false := by rw [hc]; simp; omega
          have q2 : ((s[a].toNat : Int) == 10) = true := by rw [hc, h10]; rfl
          clear h2 hc h3210 h32 h10
          go_wp2
          go_roundw
          case rel => exact ⟨a + 1, nn, acc, ns, by omega, by go_num, Hs.out, hal, by omega, hap, hown, hownN, hbw⟩
          case measure => simp [intOf]; omega
      · have hn32 : bt s a ≠ 32 := fun e => h2 ((cls_blank _ (bt_lt s a)).2 (.inl e))
        have hn10 : bt s a ≠ 10 := fun e => h2 ((cls_blank _ (bt_lt s a)).2 (.inr e))
        have q1 : ((s[a].toNat : Int) == 32) = false := by rw [hc]; simp; omega
        have q2 : ((s[a].toNat : Int) == 10) = false := by rw [hc]; simp; omega
        have hpp := pieces_piece hlt h2
        by_cases h3 : cls (bt s a) = 3
        · obtain ⟨n1, n2, n3, n4, n5⟩ := note_piece hlt h3
          have q3 : ((s[a].toNat : Int) == 126) = true := by rw [hc, (cls_tilde _ (bt_lt s a)).1 h3]; rfl
          have Hs := Lib.hid (show collect (piecesFrom s 0) [] = collect (piecesFrom s (runEnd notFeed s a)) acc by rw [HC.out, hpp, collect, if_pos ((kind5 hlt).2 h3), n1])
          have Hno := Lib.hid (fun W => refNote_any s a W hs ha)
          generalize hE : runEnd notFeed s a = E at *
          generalize s.extract a E = nt at *
          have hn1 : 1 ≤ nt.size := by omega
          have N6 := Lib.hid (show (a : Int) + (nt.size : Int) = (E : Int) by omega)
          have hnt : nt.size ≤ 100000 := by omega
          have hE1 : a < E := by omega
          clear n1 n2 n4 n5 hE hc h2 h3 hn32 hn10 hpp
          go_wp2_with (first
            | (go_at_call 90; refine (Hno.out _).mono ?_; rintro e w' ⟨rfl, rfl⟩)
            | (at_builtin; refine wpList_append_own_at _ rfl _ _ 31 rfl w.heap.size 47 i0 _ 3 32 Tryz.underlying31 hi hz0 hz1 hz2 rfl (by decide) _ _ _ rfl (hownN.alloc _) ⟨wr.heap.size, 0, none⟩ 1 1 [.int .u8 5, .string (nt.extract 1 nt.size), .int .i64 (a : Int)] rfl rfl (lit_new _ _ _ rfl _) (fun u hu => by simp at hu; rcases hu with rfl | rfl | rfl <;> rfl) (by unfold maxLen; omega) (by omega) (by rw [alloc_sz]; omega) ?_; intro v' w2 hown' hgrow _ hat))
          go_roundw
          case rel =>
            refine ⟨E, nn + 1, acc, _, n3, congrArg (Value.int .i64) N6.out, Hs.out, hal, by omega, Apart.next (hown.alloc _) hap (Nat.le_refl _) hat, Apart.kept (hown.alloc _) hap hgrow, hown', (hbw.alloc hbz _).grown hgrow (by rw [alloc_sz]; omega) (fun j hj => (World.ownsRow.lt hownN j hj).1)⟩
          case measure => simp [intOf]; omega
        · have hn126 : bt s a ≠ 126 := fun e => h3 ((cls_tilde _ (bt_lt s a)).2 e)
          have q3 : ((s[a].toNat : Int) == 126) = false := by rw [hc]; simp; omega
          have hte : tkErr s a = (piece s a).err := by unfold tkErr; rw [if_neg h3]
          have hk5 : ¬ (piece s a).tk.kind = 5 := fun e => h3 ((kind5 hlt).1 e)
          have htk := fun W => token_any s a W hs hlt
          unfold TokenP tkGot at htk
          rw [hte] at htk
          have hlt2 := lt_pieceEnd hlt
          have hle2 := pieceEnd_le hlt
          by_cases he : (piece s a).err = 0
          · obtain ⟨_, tx, px⟩ := tok_good hlt h3 he
            have hsz : (piece s a).tk.text.size = pieceEnd s a - a := by rw [tx]; simp; omega
            rw [if_pos he, he] at htk
            by_cases h900 : acc.length = 900
            · have Hf := Lib.hid (show collect (piecesFrom s 0) [] = ([], a, 5) by rw [HC.out, hpp, col_full _ _ hk5 he h900]; rfl)
              have hq9 : ((acc.length : Int) == 900) = true := by rw [h900]; rfl
              generalize (piece s a).tk = x at *
              have Htk := Lib.hid htk
              clear htk he h900 hte hk5 hpp h2 h3 hn32 hn10 hn126 hc tx px hsz hlt2 hle2
              unfold tkVals at Htk
              go_wp2_with (go_at_call 89; refine (Htk.out _).mono ?_; rintro e w1 ⟨rfl, hb1⟩)
              refine bodyPost_ret (v := .tuple #[.slice none 0 0, .slice none 0 0, .int .i64 (a : Int), .int .i64 5]) (by simp [results, Tryz.results77, go_sem]) rfl (AllP.bad Hf.out rfl rfl ?_)
              exact (hbw.trans (hb1.mono hbz)).alloc (Nat.le_trans hbz hb1.size) _
            · have Hs := Lib.hid (show collect (piecesFrom s 0) [] = collect (piecesFrom s (pieceEnd s a)) (acc ++ [(piece s a).tk]) by rw [HC.out, hpp, col_tok _ _ hk5 he h900])
              have hq9 : ((acc.length : Int) == 900) = false := by simp; omega
              generalize (piece s a).tk = x at *
              have Htk := Lib.hid htk
              have N6 := Lib.hid (show (a : Int) + (x.text.size : Int) = (pieceEnd s a : Int) by omega)
              have hx1 : x.text.size ≤ 100000 := by omega
              generalize pieceEnd s a = E at *
              have hal9 : acc.length + 1 ≤ 900 := by omega
              clear htk he h900 hte hk5 hpp h2 h3 hn32 hn10 hn126 hc tx px hsz
              unfold tkVals at Htk
              go_wp2_with (first
                | (go_at_call 89; refine (Htk.out _).mono ?_; rintro e w1 ⟨rfl, hb1⟩; have hz1' := hb1.size; have hown1 := ownsRow_below hown hb1; have hownN1 := ownsRow_below hownN hb1)
                | (at_builtin; refine wpList_append_own_at _ rfl _ _ 31 rfl w.heap.size 47 i0 _ 3 32 Tryz.underlying31 hi hz0 hz1 hz2 rfl (by decide) _ _ _ rfl ((hown1.alloc _).alloc _) ⟨w1.heap.size + 1, 0, none⟩ 1 1 [.int .u8 (x.kind : Int), .string x.text, .int .i64 (x.pos : Int)] rfl rfl (lit_new _ _ _ (by rw [alloc_sz]) _) (fun u hu => by simp at hu; rcases hu with rfl | rfl | rfl <;> rfl) (by unfold maxLen; omega) (by omega) (by rw [alloc_sz, alloc_sz]; omega) ?_; intro v' w2 hown' hgrow _ hat; have hx1' := box_kept hown1 hgrow 1; simp only [List.getElem?_toArray, List.getElem?_cons_succ, List.getElem?_cons_zero] at hx1'))
              go_roundw
              case rel =>
                refine ⟨E, nn, acc ++ [x], ns, hle2, congrArg (Value.int .i64) N6.out, ?_, by simp; omega, by omega, ?_, ?_, ?_, ?_⟩
                · exact Hs.out
                · exact Apart.symm hown' (Apart.next ((hownN1.alloc _).alloc _) (Apart.symm hownN hap) (Nat.le_refl _) hat)
                · rw [tkCells_snoc, List.length_append]; exact hown'
                · exact Apart.kept ((hownN1.alloc _).alloc _) (Apart.symm hownN hap) hgrow
                · exact (((hbw.trans (hb1.mono hbz)).alloc (Nat.le_trans hbz hz1') _).alloc (by rw [alloc_sz]; omega) _).grown hgrow (by rw [alloc_sz, alloc_sz]; omega) (fun j hj => (World.ownsRow.lt hown1 j hj).1)
              case measure => simp [intOf]; have := N6.out; omega
          · have Hf := Lib.hid (show collect (piecesFrom s 0) [] = ([], a, (piece s a).err) by rw [HC.out, hpp, col_err _ _ hk5 he]; rfl)
            rw [if_neg he] at htk
            generalize (piece s a).err = te at *
            have ht3 : ((te : Int) == 0) = false := by simp; omega
            have ht4 : ((te : Int) != 0) = true := by simp; omega
            have Htk := Lib.hid htk
            clear htk he hte hk5 hpp h2 h3 hn32 hn10 hn126 hc hlt2 hle2
            unfold tkVals at Htk
            go_wp2_with (go_at_call 89; refine (Htk.out _).mono ?_; rintro e w1 ⟨rfl, hb1⟩)
            refine bodyPost_ret (v := .tuple #[.slice none 0 0, .slice none 0 0, .int .i64 (a : Int), .int .i64 (te : Int)]) (by simp [results, Tryz.results77, go_sem]) rfl (AllP.bad Hf.out rfl rfl ?_)
            exact (hbw.trans (hb1.mono hbz)).alloc (Nat.le_trans hbz hb1.size) _
    · have Hf := Lib.hid (show collect (piecesFrom s 0) [] = (acc, 0, 0) by rw [HC.out, pieces_end (by omega), collect])
      go_wp2
      refine bodyPost_ret (v := .tuple #[.slice A1 acc.length c1, .slice A2 nn c2, .int .i64 0, .int .i64 0]) (by simp [results, Tryz.results77, go_sem]) rfl (AllP.good Hf.out hown hbw)

theorem refTokens_any (s : ByteArray) (w : World) (hs : s.size ≤ 100000) :
    Calls Tryz.prog 51 #[.string s] w fun e w' => ∃ v, e = .returned (.tuple #[v, .int .i64 ((tokens s).2.1 : Int), .int .i64 ((tokens s).2.2 : Int)]) ∧ w'.ownsRow w.heap.size 47 3 v (tokens s).1.length (tkCells (tokens s).1) ∧ Below w.heap.size w w' := by
  have Hte := Lib.hid (refTextError_any s w hs)
  by_cases h0 : (textErr s).2 = 0
  · have ht : tokens s = collect (piecesFrom s 0) [] := if_pos h0
    rw [ht]
    have hall := all_any s w hs
    unfold AllP at hall
    generalize collect (piecesFrom s 0) [] = C at hall
    have Hall := Lib.hid hall
    have H0 := Lib.hid h0
    clear hall h0 ht
    go_enter Tryz.func51, Tryz.ntmps51
    go_wp2_with (first
      | (go_at_call 31; refine Hte.out.mono ?_; rw [H0.out]; rintro e w' ⟨rfl, rfl⟩)
      | (go_at_call 77; refine Hall.out.mono ?_; rintro e w1 ⟨v, u, rfl, hown, hb1⟩))
    go_ret3
    exact ⟨v, rfl, hown, hb1⟩
  · have hf : tokens s = ([], (textErr s).1, (textErr s).2) := if_neg h0
    rw [hf]
    have ht : (((textErr s).2 : Int) != 0) = true := by simp; omega
    clear h0 hf
    go_enter Tryz.func51, Tryz.ntmps51
    go_wp2_with (go_at_call 31; refine Hte.out.mono ?_; rintro e w' ⟨rfl, rfl⟩)
    go_ret3
    exact ⟨_, rfl, World.ownsRow_nil _ _ _ _, Below.refl _ _⟩

theorem scan_len (s : ByteArray) : ∀ (f a : Nat), s.size - a ≤ f → (piecesFrom s a).length ≤ s.size - a := by
  intro f
  induction f with
  | zero => intro a hf; rw [pieces_end (by omega)]; simp
  | succ f ih =>
    intro a hf
    by_cases ha : a < s.size
    · by_cases h2 : cls (bt s a) = 2
      · rw [pieces_blank ha h2]; have := ih (a + 1) (by omega); omega
      · have hlt := lt_pieceEnd ha
        have hle := pieceEnd_le ha
        rw [pieces_piece ha h2, List.length_cons]; have := ih (pieceEnd s a) (by omega); omega
    · rw [pieces_end (by omega)]; simp
theorem notes_len (s : ByteArray) : (notes s).1.length ≤ s.size := by
  unfold notes
  split
  · have := scan_len s s.size 0 (by omega)
    have h2 := List.length_filter_le (fun p : Pc => p.tk.kind == 5) (piecesFrom s 0)
    rw [List.length_map]; omega
  · simp
theorem col_short : ∀ (l : List Pc) (acc : List Tk), acc.length ≤ 900 → (collect l acc).1.length ≤ 900 := by
  intro l
  induction l with
  | nil => intro acc h; exact h
  | cons p r ih =>
    intro acc h
    rw [collect]
    split
    · exact ih acc h
    · split
      · split
        · simp
        · exact ih _ (by simp; omega)
      · simp
theorem tokens_len (s : ByteArray) : (tokens s).1.length ≤ 900 := by
  unfold tokens
  split
  · exact col_short _ [] (by simp)
  · simp

end Go.Proofs.YtocogbllhmiefaaGreatDoor.Lx
