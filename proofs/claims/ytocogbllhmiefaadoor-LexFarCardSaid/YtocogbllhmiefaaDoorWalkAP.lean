/- LexShorter: the shortest text with the tokens of a text. -/
import Derived.Test.YtocogbllhmiefaaDoorWalkAO
import Derived.Test.YtocogbllhmiefaaDoorSpecI
namespace Go.Proofs.YtocogbllhmiefaaDoor.Lx
open Go Go.Proofs Go.RowKit Go.Shelf

theorem piece_text (s : ByteArray) {a : Nat} (h : a < s.size) : (piece s a).tk.text.size ≤ s.size := by
  have h0 : (piece s a).tk = ⟨(kindOf (s.extract a (pieceEnd s a))).1, trimT (s.extract a (pieceEnd s a)), a⟩ := rfl
  rw [h0]
  have := pieceEnd_le h
  unfold trimT
  dsimp only
  split
  · simp; omega
  · simp; omega
theorem toks_text (s : ByteArray) : ∀ (f a : Nat), s.size - a ≤ f → ∀ x ∈ toksOf (piecesFrom s a), x.text.size ≤ s.size := by
  intro f
  induction f with
  | zero => intro a hf x hx; rw [pieces_end (by omega)] at hx; simp [toksOf] at hx
  | succ f ih =>
    intro a hf x hx
    by_cases ha : a < s.size
    · by_cases h2 : cls (bt s a) = 2
      · rw [pieces_blank ha h2] at hx; exact ih (a + 1) (by omega) x hx
      · have hlt := lt_pieceEnd ha
        rw [pieces_piece ha h2] at hx
        unfold toksOf at hx
        rw [List.filter_cons] at hx
        split at hx
        · rw [List.map_cons] at hx
          rcases List.mem_cons.1 hx with rfl | hx
          · exact piece_text s ha
          · exact ih (pieceEnd s a) (by omega) x hx
        · exact ih (pieceEnd s a) (by omega) x hx
    · rw [pieces_end (by omega)] at hx; simp [toksOf] at hx
theorem tokens_text {s : ByteArray} (h : (tokens s).2.2 = 0) : ∀ x ∈ (tokens s).1, x.text.size ≤ s.size := by
  rw [(tokens_parts h).2.1]
  exact toks_text s _ 0 (Nat.le_refl _)

theorem tkCells_len : ∀ l : List Tk, (tkCells l).length = l.length * 3 := by
  intro l
  induction l with
  | nil => rfl
  | cons x r ih => show ([_, _, _] ++ tkCells r).length = _; rw [List.length_append, ih]; simp; omega
theorem tkCells_one (l : List Tk) : ∀ u ∈ tkCells l, u.oneCell' = true := by
  intro u hu
  simp only [tkCells, List.mem_flatMap] at hu
  obtain ⟨x, _, hx⟩ := hu
  simp at hx
  rcases hx with rfl | rfl | rfl <;> rfl

theorem SameB.at_ : ∀ {l m : List Tk}, l.length = m.length → (∀ (j : Nat) (x y : Tk), l[j]? = some x → m[j]? = some y → x.kind = y.kind ∧ x.text = y.text) → SameB l m
  | [], [], _, _ => trivial
  | x :: r, y :: q, h, hj => ⟨(hj 0 x y rfl rfl).1, (hj 0 x y rfl rfl).2, SameB.at_ (by simpa using h) (fun j u v hu hv => hj (j + 1) u v (by simpa using hu) (by simpa using hv))⟩
  | [], _ :: _, h, _ => by simp at h
  | _ :: _, [], h, _ => by simp at h
theorem SameB.of_ : ∀ {l m : List Tk}, SameB l m → ∀ (j : Nat) (x y : Tk), l[j]? = some x → m[j]? = some y → x.kind = y.kind ∧ x.text = y.text
  | x :: r, y :: q, ⟨h1, h2, h3⟩, j, u, v, hu, hv => by
    cases j with
    | zero => simp at hu hv; subst hu; subst hv; exact ⟨h1, h2⟩
    | succ j => exact SameB.of_ h3 j u v (by simpa using hu) (by simpa using hv)
  | [], [], _, j, u, v, hu, _ => by simp at hu
  | [], _ :: _, h, _, _, _, _, _ => h.elim
  | _ :: _, [], h, _, _, _, _, _ => h.elim

set_option maxRecDepth 100000 in
set_option maxHeartbeats 4000000 in
theorem sameBut_any (a b : Value) (l m : List Tk) (w : World) (ha : SlTw w a l) (hb : SlTw w b m) (hl : l.length ≤ 100000) :
    Calls Tryd.prog 34 #[a, b] w fun e w' => ∃ r, e = .returned (.bool r) ∧ (r = true ↔ SameB l m) ∧ Below w.heap.size w w' := by
  obtain ⟨A, ca, rfl, hA⟩ := ha
  obtain ⟨B, cb, rfl, hB⟩ := hb
  by_cases hlen : l.length = m.length
  · have ht : ((l.length : Int) != (m.length : Int)) = false := by simp; omega
    have Hlen := Lib.hid hlen
    clear hlen
    go_enter Tryd.func34, Tryd.ntmps34
    go_wp2
    go_loopw [5] (fun i wr => ∃ k : Nat, k ≤ l.length ∧ i = .int .i64 k ∧ (∀ j, j < k → ∀ x y, l[j]? = some x → m[j]? = some y → x.kind = y.kind ∧ x.text = y.text) ∧ Below w.heap.size w wr) (fun i _ => l.length - (intOf i).toNat)
    case atStart => exact ⟨0, Nat.zero_le _, rfl, fun j h => absurd h (by omega), Below.refl _ _⟩
    case round =>
      obtain ⟨k, hk, rfl, hj, hbw⟩ := hrel
      have Hj := Lib.hid hj
      clear hj
      by_cases hlt : k < l.length
      · obtain ⟨b1, o1, rfl, hb1, hc1⟩ := hA (by omega)
        obtain ⟨b2, o2, rfl, hb2, hc2⟩ := hB (by have := Hlen.out; omega)
        have hkm : k < m.length := by have := Hlen.out; omega
        obtain ⟨p1, p2, _⟩ := hc1 k _ (List.getElem?_eq_getElem hlt)
        obtain ⟨q1, q2, _⟩ := hc2 k _ (List.getElem?_eq_getElem hkm)
        have p1' := (hbw.cell (p := ⟨b1, o1 + k * 3, none⟩) hb1).trans p1
        have p2' := (hbw.cell (p := ⟨b1, o1 + k * 3 + 1, none⟩) hb1).trans p2
        have q1' := (hbw.cell (p := ⟨b2, o2 + k * 3, none⟩) hb2).trans q1
        have q2' := (hbw.cell (p := ⟨b2, o2 + k * 3 + 1, none⟩) hb2).trans q2
        clear p1 p2 q1 q2 hc1 hc2 hA hB
        have Hx := Lib.hid (List.getElem?_eq_getElem hlt)
        have Hy := Lib.hid (List.getElem?_eq_getElem hkm)
        generalize l[k] = x at p1' p2' Hx
        generalize m[k] = y at q1' q2' Hy
        have Hst := Lib.hid (show ∀ (h1 : x.kind = y.kind) (h2 : x.text = y.text) j, j < k + 1 → ∀ u v, l[j]? = some u → m[j]? = some v → u.kind = v.kind ∧ u.text = v.text from fun h1 h2 j hj u v hu hv => by
          rcases Nat.lt_succ_iff_lt_or_eq.1 hj with h | rfl
          · exact Hj.out j h u v hu hv
          · rw [Hx.out] at hu; rw [Hy.out] at hv
            injection hu with hu; injection hv with hv
            subst hu; subst hv; exact ⟨h1, h2⟩)
        have Hno := Lib.hid (fun (h : ¬ (x.kind = y.kind ∧ x.text = y.text)) (hS : SameB l m) => h (SameB.of_ hS k x y Hx.out Hy.out))
        by_cases hxk : x.kind = y.kind
        · have e1 : ((x.kind : Int) != (y.kind : Int)) = false := by rw [hxk]; simp
          by_cases hxt : x.text.toList = y.text.toList
          · have e2 : (x.text.toList == y.text.toList) = true := by simp [hxt]
            have e3 : (x.text.toList != y.text.toList) = false := by simp [hxt]
            have Hs := Lib.hid (Hst.out hxk (str_eq.1 hxt))
            clear hxk hxt
            go_wp2
            go_quiet (fail)
            go_wp2
            go_roundw
            case rel => exact ⟨k + 1, by omega, by go_num, Hs.out, below_draws hbw _⟩
            case measure => simp [intOf]; omega
          · have e2 : (x.text.toList == y.text.toList) = false := by simp [hxt]
            have e3 : (x.text.toList != y.text.toList) = true := by simp [hxt]
            have Hs := Lib.hid (Hno.out (fun h => hxt (by rw [h.2])))
            clear hxk hxt
            go_wp2
            go_quiet (fail)
            go_wp2
            go_ret
            exact ⟨_, rfl, ⟨fun h => absurd h (by decide), fun h => absurd h Hs.out⟩, below_draws hbw _⟩
        · have e1 : ((x.kind : Int) != (y.kind : Int)) = true := by simp; omega
          have Hs := Lib.hid (Hno.out (fun h => hxk h.1))
          clear hxk
          go_wp2
          go_quiet (fail)
          go_wp2
          go_ret
          exact ⟨_, rfl, ⟨fun h => absurd h (by decide), fun h => absurd h Hs.out⟩, below_draws hbw _⟩
      · have Hs := Lib.hid (SameB.at_ Hlen.out (fun j x y hx hy => Hj.out j (by have := (List.getElem?_eq_some_iff.1 hx).1; omega) x y hx hy))
        go_wp2
        go_ret
        exact ⟨_, rfl, ⟨fun _ => Hs.out, fun _ => rfl⟩, hbw⟩
  · have ht : ((l.length : Int) != (m.length : Int)) = true := by simp; omega
    have Hlen := Lib.hid hlen
    clear hlen
    go_enter Tryd.func34, Tryd.ntmps34
    go_wp2
    go_ret
    exact ⟨_, rfl, ⟨fun h => absurd h (by decide), fun h => absurd (SameB.length h) Hlen.out⟩, Below.refl _ _⟩

set_option maxRecDepth 100000 in
set_option maxHeartbeats 8000000 in
theorem lexShorter_in (s : ByteArray) (w : World) (hG : Gl w) (h3 : ¬ 3000 < s.size) (h0 : (tokens s).2.2 = 0) :
    Calls Tryd.prog 8 #[.string s] w (AwakeP w) := by
  obtain ⟨i0, hi, hz0, hz1, hz2⟩ := info_parts tk_info
  obtain ⟨t0, t1, m, t2, t3⟩ := tight_of h0
  have htt := tokens_text h0
  have hlen := (tokens_parts h0).2.2.2.2
  have htk := fun W hG' => tokens_any s W (by omega) hG'
  rw [h0] at htk
  have hti := fun v W hv hG' => tight_any v (tokens s).1 W hv (by omega) (fun x hx => Nat.le_trans (htt x hx) (by omega)) hG'
  rw [t0] at hti
  generalize (tokens s).2.1 = tp at htk
  generalize (tokens s).1 = T at *
  generalize tight T = t at *
  have htk2 := fun W hG' => tokens_any t W (by omega) hG'
  rw [t2] at htk2
  have hsb := fun W a b ha hb => sameBut_any a b T m W ha hb (by omega)
  have e1 : decide ((t.size : Int) ≤ (s.size : Int)) = true := by simp; omega
  have Htk := Lib.hid htk
  have Hti := Lib.hid hti
  have Htk2 := Lib.hid htk2
  have Hsb := Lib.hid hsb
  have T3 := Lib.hid t3
  clear htk hti htk2 hsb htt t3 t0 h0
  go_enter Tryd.func8, Tryd.ntmps8
  go_wp2_with (first
    | (go_at_call 14; refine (awake_any _ (hG.next hB5)).mono ?_; rintro e w6 ⟨rfl, hb6⟩)
    | (go_at_call 34; refine (Hsb.out _ _ _ (SlTw.of_tk (((SlTk.of_own hown1).below (hb2.trans (hb3.mono hb2.size))).below hb4)) (SlTw.of_tk (SlTk.of_own hown4))).mono ?_; rintro e w5 ⟨r5, rfl, hr5, hb5⟩; obtain rfl := hr5.2 T3.out; have hB5 := hB4.trans (hb5.mono hB4.size))
    | (go_at_call 15; have hpast := hb3; refine (Htk2.out _ (hG.next hB3)).mono ?_; rintro e w4 ⟨v4, rfl, hown4, hb4⟩; have hB4 := hB3.trans (hb4.mono hB3.size); obtain ⟨A4, c4, rfl⟩ := own_form hown4)
    | (go_at_call 33; refine (Hti.out _ _ (SlTw.of_tk (SlTk.of_own hown2)) (hG.next hB2)).mono ?_; rintro e w3 ⟨rfl, hb3⟩; have hB3 := hB2.trans (hb3.mono hB2.size))
    | (at_builtin; refine wpList_copy rfl _ _ 23 rfl 48 i0 _ 3 32 Tryd.underlying23 hi hz0 hz1 hz2 rfl (by decide) rfl _ T.length (tkCells T) rfl (Src.of_own hown1 (by decide)) (tkCells_len T) (tkCells_one T) (by unfold maxLen; omega) (by omega) ?_; intro v2 w2 hown2 hb2; have hB2 := hb1.trans (hb2.mono hb1.size); obtain ⟨A2, c2, rfl⟩ := own_form hown2)
    | (go_at_call 15; refine (Htk.out _ hG).mono ?_; rintro e w1 ⟨v1, rfl, hown1, hb1⟩; obtain ⟨A1, c1, rfl⟩ := own_form hown1))
  go_ret
  exact ⟨rfl, hB5.trans (hb6.mono hB5.size)⟩

set_option maxRecDepth 100000 in
set_option maxHeartbeats 4000000 in
theorem lexShorter_any (s : ByteArray) (w : World) (hG : Gl w) :
    Calls Tryd.prog 8 #[.string s] w fun e w' => e = .returned (.bool true) ∧ Below w.heap.size w w' := by
  by_cases h3 : 3000 < s.size
  · go_enter Tryd.func8, Tryd.ntmps8
    go_wp2_with (go_at_call 14; refine (awake_any _ hG).mono ?_; rintro e w1 ⟨rfl, hb1⟩)
    go_ret
    exact ⟨rfl, hb1⟩
  · by_cases h0 : (tokens s).2.2 = 0
    · exact lexShorter_in s w hG h3 h0
    · have htk := fun W hG' => tokens_any s W (by omega) hG'
      generalize (tokens s).2.2 = te at htk h0
      have ht3 : ((te : Int) != 0) = true := by simp; omega
      have Htk := Lib.hid htk
      clear htk h0
      go_enter Tryd.func8, Tryd.ntmps8
      go_wp2_with (first
        | (go_at_call 15; refine (Htk.out _ hG).mono ?_; rintro e w1 ⟨v1, rfl, hown1, hb1⟩)
        | (go_at_call 14; refine (awake_any _ (hG.next hb1)).mono ?_; rintro e w2 ⟨rfl, hb2⟩))
      go_ret
      exact ⟨rfl, hb1.trans (hb2.mono hb1.size)⟩

end Go.Proofs.YtocogbllhmiefaaDoor.Lx
