/- What each call of awake gives. -/
import Derived.Test.YtoncdnelacolaaaGreatDoorAExample
import Derived.Test.YtoncdnelacolaaaGreatDoorAWalkI
namespace Go.Proofs.YtoncdnelacolaaaGreatDoor.Ar
open Go Go.Proofs Go.RowKit Lx Ps

/-- What stands for the first identifier of the examples' arena. -/
def xA : Ar := ⟨[⟨[], ⟨false, 3⟩⟩, ⟨[], ⟨true, 2⟩⟩], ⟨false, 1⟩, true⟩

theorem ex_moves (v : Value) (V : World) (hin : ArIn V v exA) :
    Calls Tryz.prog 20 #[arV v exA] V fun e w' => ∃ A c, e = .returned (.tuple #[.slice A 22 c, .int .i64 0]) ∧ Below V.heap.size V w' :=
  (moves_any v exA V hin (by decide)).mono fun _ _ ⟨u, h1, h2, h3⟩ => by
    obtain ⟨A, c, rfl⟩ := own_slice h2
    exact ⟨A, c, h1, h3⟩
theorem ex_inner (v : Value) (V : World) (hin : ArIn V v exA) :
    Calls Tryz.prog 36 #[arV v exA, .int .i64 1] V fun e w' => ∃ A c, e = .returned (.tuple #[.agg #[.slice A 2 c, .bool false, .int .i64 1, .bool true], .int .i64 0]) ∧ ArIn w' (.slice A 2 c) xA ∧ Below V.heap.size V w' :=
  (inner_ok v exA 0 _ V hin (by decide) rfl (by decide) (by decide)).mono fun _ _ ⟨u, h1, h2, h3⟩ => by
    obtain ⟨A, c, rfl⟩ := own_slice h2
    exact ⟨A, c, h1, ⟨SlT.of_own h2, by decide, by decide⟩, h3⟩
theorem ex_show (u : Value) (V : World) (hin : ArIn V u xA) (hG : Ga V) :
    Calls Tryz.prog 21 #[arV u xA] V fun e w' => e = .returned (.tuple #[.string ⟨#[105, 110, 116, 32, 49, 59, 32, 105, 110, 116, 32, 51, 59, 32, 99, 101, 108, 108, 32, 50, 59, 32, 106, 117, 109, 112, 115]⟩, .int .i64 0]) ∧ Below V.heap.size V w' := by
  have ht : arenaT xA = [105, 110, 116, 32, 49, 59, 32, 105, 110, 116, 32, 51, 59, 32, 99, 101, 108, 108, 32, 50, 59, 32, 106, 117, 109, 112, 115] := by
    simp [arenaT, partsT, typeT, baseT, xA, Lib.join, Lib.itoa, Lib.decDigits]
  have hc : checkE xA = 0 := by decide
  refine (show_of u xA V hin fun _ W hb => arenaText_flat u xA W (hin.below hb) (by decide) (by decide) (by decide) (by decide) (by decide) (by rw [ht]; decide) (hG.next hb)).mono fun _ _ ⟨h1, h2⟩ => ⟨h1.trans ?_, h2⟩
  unfold showR
  rw [if_pos hc, ht]
  rfl
theorem ex_under (v : Value) (V : World) (hin : ArIn V v exA) :
    Calls Tryz.prog 30 #[arV v exA, .agg #[.int .i64 1, .int .i64 0, .int .u8 1, .int .i64 0]] V fun e w' => ∃ A c, e = .returned (.tuple #[.slice A 4 c, .int .i64 0]) ∧ Below V.heap.size V w' :=
  (under_any v exA ⟨1, 0, 1, 0⟩ _ V hin (by decide) rfl (by decide)).mono fun _ _ ⟨u, h1, h2, h3⟩ => by
    obtain ⟨A, c, rfl⟩ := own_slice h2
    exact ⟨A, c, h1, h3⟩
theorem ex_other (v : Value) (V : World) (hin : ArIn V v exA) :
    Calls Tryz.prog 28 #[arV v exA, .agg #[.int .i64 1, .int .i64 0, .int .u8 3, .int .i64 0]] V fun e w' => e = .returned (.tuple #[.bool true, .int .i64 0]) ∧ Below V.heap.size V w' :=
  isOther_any v exA ⟨1, 0, 3, 0⟩ V hin
theorem ex_parse (V : World) (hG : Ga V) :
    Calls Tryz.prog 42 #[.string ⟨#[49, 46, 50, 61, 49]⟩] V fun e w' => e = .returned (.tuple #[.agg #[.int .i64 1, .int .i64 2, .int .u8 2, .int .i64 1], .int .i64 0]) ∧ Below V.heap.size V w' :=
  (parse_any [49, 46, 50, 61, 49] V (by decide) hG).mono fun _ _ ⟨v, h1, h2, h3⟩ => by
    obtain ⟨e1, e2, e3⟩ := parse_ex
    refine ⟨h1.trans ?_, h3⟩
    rcases h2 with ⟨k, hk, ht, rfl⟩ | ⟨hk, _⟩
    · rcases hk with rfl | rfl | rfl
      · rw [e1] at ht; cases ht
      · rw [e2] at ht
        injection ht with ht
        rw [← ht]
        rfl
      · rw [e3] at ht; cases ht
    · rw [hk 2 (by simp)] at e2; cases e2

end Go.Proofs.YtoncdnelacolaaaGreatDoor.Ar
