/- The first number that is not 0. -/
import Derived.Test.YtoncdnelacolaaaGreatDoorALess
namespace Go.Proofs.YtoncdnelacolaaaGreatDoor.Ar
open Go Go.Proofs Go.RowKit Lx Ps

def orL : List Int → Int
  | [] => 0
  | x :: r => if x = 0 then orL r else x
theorem orL_cons (x : Int) (r : List Int) : orL (x :: r) = if x = 0 then orL r else x := rfl

set_option maxRecDepth 100000 in
set_option maxHeartbeats 1000000 in
theorem or_any (b : Nat) (l : List Int) (w : World) (hl : l.length ≤ 1000) (hc : ∀ k x, l[k]? = some x → w.cell? ⟨b, k, none⟩ = some (.int .i64 x)) :
    Calls Tryz.prog 105 #[.slice (some ⟨b, 0, none⟩) l.length l.length] w fun e w' => e = .returned (.int .i64 (orL l)) ∧ w' = w := by
  go_enter Tryz.func105, Tryz.ntmps105
  go_wp2
  go_loopw [8] (fun c wr => ∃ k : Nat, k ≤ l.length ∧ c = .int .i64 (k : Int) ∧ wr = w ∧ orL l = orL (l.drop k)) (fun c _ => l.length - (intOf c).toNat)
  case atStart => exact ⟨0, Nat.zero_le _, rfl, rfl, rfl⟩
  case round =>
    obtain ⟨k, hk, rfl, rfl, ho⟩ := hrel
    have HO := Lib.hid ho
    by_cases hlt : k < l.length
    · have c1 := hc k _ (List.getElem?_eq_getElem hlt)
      have hd := List.drop_eq_getElem_cons hlt
      rw [hd] at ho
      clear hd HO
      generalize l[k] = x at c1 ho
      rw [orL_cons] at ho
      by_cases hx : x = 0
      · rw [if_pos hx] at ho
        have HO := Lib.hid ho
        subst hx
        clear ho hc
        go_wp2
        go_roundw
        case rel => exact ⟨k + 1, by omega, by go_num, trivial, HO.out⟩
        case measure => simp [intOf]; omega
      · rw [if_neg hx] at ho
        have HO := Lib.hid ho
        have hx2 : (x != 0) = true := by simpa using hx
        clear ho hc
        go_wp2
        go_ret
        exact ⟨by rw [HO.out]; rfl, rfl⟩
    · have hkN : k = l.length := by omega
      subst hkN
      rw [List.drop_length] at ho
      have HO2 := Lib.hid ho
      clear ho HO hc
      go_wp2
      go_ret
      exact ⟨by rw [HO2.out]; rfl, rfl⟩

end Go.Proofs.YtoncdnelacolaaaGreatDoor.Ar
