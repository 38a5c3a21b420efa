/- LexBack: for every list of tokens it returns true. -/
import Derived.Test.YtocogbllhmiefaaDoorWalkAT
namespace Go.Proofs.YtocogbllhmiefaaDoor.Lx
open Go Go.Proofs Go.RowKit Go.Shelf

set_option maxRecDepth 100000 in
set_option maxHeartbeats 8000000 in
theorem lexBack_any (A : Option Addr) (c : Nat) (l : List Ta) (w : World) (hG : Gl w) (hsrc : Src w (.slice A l.length c) l.length (taCells l)) (hl0 : l.length ≤ 140737488355328) (ht : ∀ x ∈ l, x.tk.text.size ≤ 140737488355328) :
    Calls Tryd.prog 7 #[.slice A l.length c] w (AwakeP w) := by
  by_cases hl : 200 < l.length
  · clear hsrc ht
    generalize l.length = n at *
    go_enter Tryd.func7, Tryd.ntmps7
    go_wp2_with (go_at_call 14; refine (awake_any _ hG).mono ?_; rintro e w1 ⟨rfl, hb1⟩)
    go_ret
    exact ⟨rfl, hb1⟩
  · have hsl := SlTw.of_src hsrc
    have hmap : (l.map Ta.tk).length = l.length := List.length_map _
    have htx : ∀ x ∈ l.map Ta.tk, x.text.size ≤ 140737488355328 := fun x hx => by
      obtain ⟨y, hy, rfl⟩ := List.mem_map.1 hx
      exact ht y hy
    cases hsh : shortB (l.map Ta.tk) with
    | false =>
      have hshort := fun W h => short_any (.slice A l.length c) (l.map Ta.tk) W h (by omega) htx
      rw [hsh] at hshort
      have Hshort := Lib.hid hshort
      have HS := Lib.hid hsl
      clear hshort hsl hsrc ht htx hmap hsh
      generalize l.map Ta.tk = L at *
      generalize l.length = n at *
      go_enter Tryd.func7, Tryd.ntmps7
      go_wp2_with (first
        | (go_at_call 32; refine (Hshort.out _ HS.out).mono ?_; rintro e w' ⟨rfl, rfl⟩)
        | (go_at_call 14; refine (awake_any _ hG).mono ?_; rintro e w1 ⟨rfl, hb1⟩))
      go_ret
      exact ⟨rfl, hb1⟩
    | true =>
      by_cases h0 : tightErr (l.map Ta.tk) = 0
      · exact lexBack_in A c l w hG hsrc (by omega) hsh h0
      · obtain ⟨i0, hi, hz0, hz1, hz2⟩ := info_parts tk_info
        have hshort := fun W h => short_any (.slice A l.length c) (l.map Ta.tk) W h (by omega) htx
        rw [hsh] at hshort
        have htt : ∀ x ∈ l.map Ta.tk, x.text.size ≤ 100000 := by
          intro x hx
          unfold shortB at hsh
          rw [Bool.and_eq_true, List.all_eq_true] at hsh
          have := of_decide_eq_true (hsh.1 x hx)
          omega
        have hti := fun v W hv hG' => tight_any v (l.map Ta.tk) W hv (by omega) htt hG'
        generalize hte : tightErr (l.map Ta.tk) = te at h0 hti
        have ht3 : ((te : Int) != 0) = true := by simp; omega
        have HS := Lib.hid hsl
        have Hso := Lib.hid (fun W v (h : Src W v l.length (taCells l)) => SlTw.of_src h)
        have Hsrc := Lib.hid hsrc
        have Hshort := Lib.hid hshort
        have Hti := Lib.hid hti
        clear hshort hti hsl hsrc ht htx htt hmap hsh hte
        generalize l.map Ta.tk = L at *
        go_enter Tryd.func7, Tryd.ntmps7
        go_wp2_with (first
          | (go_at_call 14; refine (awake_any _ (hG.next hB2)).mono ?_; rintro e w3 ⟨rfl, hb3⟩)
          | (go_at_call 33; refine (Hti.out _ _ (Hso.out _ _ (Src.of_own hown1 (by decide))) (hG.next hb1)).mono ?_; rintro e w2 ⟨rfl, hb2⟩; have hB2 := hb1.trans (hb2.mono hb1.size))
          | (at_builtin; refine wpList_copy rfl _ _ 23 rfl 48 i0 _ 3 32 Tryd.underlying23 hi hz0 hz1 hz2 rfl (by decide) rfl _ l.length (taCells l) rfl Hsrc.out (taCells_len l) (taCells_one l) (by unfold maxLen; omega) (by omega) ?_; intro v1 w1 hown1 hb1; obtain ⟨A1, c1, rfl⟩ := own_form hown1)
          | (go_at_call 32; refine (Hshort.out _ HS.out).mono ?_; rintro e w' ⟨rfl, rfl⟩))
        go_ret
        exact ⟨rfl, hB2.trans (hb3.mono hB2.size)⟩

end Go.Proofs.YtocogbllhmiefaaDoor.Lx
