/- The reference: Decimal. -/
import Derived.Test.YtoncdnelacolaaaGreatDoorAText
import Derived.Laws.Runes
namespace Go.Proofs.YtoncdnelacolaaaGreatDoor.Ar
open Go Go.Proofs Go.RowKit Go.Sort Lx Ps

theorem itoa_step {n q : Int} (hq : Int.tdiv n 10 = q) (h : q ≠ 0) : Lib.itoa n = Lib.itoa q ++ [UInt8.ofNat (48 + n.natAbs % 10)] := by
  subst hq
  rcases (show n < 0 ∨ 0 ≤ n by omega) with hn | hn
  · obtain ⟨u, rfl⟩ : ∃ u : Nat, n = -(u : Int) := ⟨n.natAbs, by omega⟩
    have e : Int.tdiv (-(u : Int)) 10 = -((u / 10 : Nat) : Int) := by rw [Int.neg_tdiv]; rfl
    rw [e] at h ⊢
    have hu : ¬ u < 10 := by omega
    have h2 : (-((u / 10 : Nat) : Int)) < 0 := by omega
    unfold Lib.itoa
    rw [if_pos hn, if_pos h2, Int.natAbs_neg, Int.natAbs_neg, Int.natAbs_natCast, Int.natAbs_natCast, Lib.decDigits, dif_neg hu]
    rfl
  · obtain ⟨u, rfl⟩ : ∃ u : Nat, n = (u : Int) := ⟨n.natAbs, by omega⟩
    have e : Int.tdiv (u : Int) 10 = ((u / 10 : Nat) : Int) := rfl
    rw [e] at h ⊢
    have hu : ¬ u < 10 := by omega
    unfold Lib.itoa
    rw [if_neg (by omega), if_neg (by omega), Int.toNat_natCast, Int.toNat_natCast, Int.natAbs_natCast, Lib.decDigits, dif_neg hu]
theorem itoa_last {n : Int} (h : Int.tdiv n 10 = 0) : Lib.itoa n = if n < 0 then [45, UInt8.ofNat (48 + n.natAbs % 10)] else [UInt8.ofNat (48 + n.natAbs % 10)] := by
  rcases (show n < 0 ∨ 0 ≤ n by omega) with hn | hn
  · obtain ⟨u, rfl⟩ : ∃ u : Nat, n = -(u : Int) := ⟨n.natAbs, by omega⟩
    have e : Int.tdiv (-(u : Int)) 10 = -((u / 10 : Nat) : Int) := by rw [Int.neg_tdiv]; rfl
    rw [e] at h
    have hu : u < 10 := by omega
    unfold Lib.itoa
    rw [if_pos hn, if_pos hn, Int.natAbs_neg, Int.natAbs_natCast, Lib.decDigits, dif_pos hu, Nat.mod_eq_of_lt hu]
  · obtain ⟨u, rfl⟩ : ∃ u : Nat, n = (u : Int) := ⟨n.natAbs, by omega⟩
    have e : Int.tdiv (u : Int) 10 = ((u / 10 : Nat) : Int) := rfl
    rw [e] at h
    have hu : u < 10 := by omega
    unfold Lib.itoa
    rw [if_neg (by omega), if_neg (by omega), Int.toNat_natCast, Int.natAbs_natCast, Lib.decDigits, dif_pos hu, Nat.mod_eq_of_lt hu]
theorem tmod_abs (n : Int) : (Int.tmod n 10 < 0 ∧ Int.tmod n 10 = -((n.natAbs % 10 : Nat) : Int)) ∨ (¬ Int.tmod n 10 < 0 ∧ Int.tmod n 10 = ((n.natAbs % 10 : Nat) : Int)) := by
  rcases (show n < 0 ∨ 0 ≤ n by omega) with hn | hn
  · obtain ⟨u, rfl⟩ : ∃ u : Nat, n = -(u : Int) := ⟨n.natAbs, by omega⟩
    have e : Int.tmod (-(u : Int)) 10 = -((u % 10 : Nat) : Int) := by rw [Int.neg_tmod]; rfl
    rw [e, Int.natAbs_neg, Int.natAbs_natCast]
    omega
  · obtain ⟨u, rfl⟩ : ∃ u : Nat, n = (u : Int) := ⟨n.natAbs, by omega⟩
    have e : Int.tmod (u : Int) 10 = ((u % 10 : Nat) : Int) := rfl
    rw [e, Int.natAbs_natCast]
    omega
theorem encode_digit {d : Nat} (h : d < 10) : Utf8.encode (48 + (d : Int)) = strB [UInt8.ofNat (48 + d)] := by
  have : ∀ d : Fin 10, Utf8.encode (48 + (d.val : Int)) = strB [UInt8.ofNat (48 + d.val)] := by decide +kernel
  exact this ⟨d, h⟩

theorem strB_one (c : UInt8) : (strB [c]).size = 1 := rfl

set_option maxRecDepth 100000 in
set_option maxHeartbeats 1000000 in
theorem dec_any : ∀ (N : Nat) (n : Int) (w : World), n.natAbs < N → -9223372036854775808 ≤ n → n ≤ 9223372036854775807 →
    Calls Tryz.prog 115 #[.int .i64 n] w fun e w' => e = .returned (.string (strB (Lib.itoa n))) ∧ Below w.heap.size w w' := by
  intro N
  induction N with
  | zero => intro n w hN; omega
  | succ N ih =>
    intro n w hN h0 h1
    have hd : n.natAbs % 10 < 10 := Nat.mod_lt _ (by omega)
    have hm := tmod_abs n
    have hst := fun q hq h => itoa_step (n := n) (q := q) hq h
    have hla := itoa_last (n := n)
    obtain ⟨q, hq⟩ : ∃ q, Int.tdiv n 10 = q := ⟨_, rfl⟩
    have hqa : q.natAbs = n.natAbs / 10 := by rw [← hq, Int.natAbs_tdiv]; rfl
    have he := encode_digit hd
    have HST := Lib.hid (hst q hq)
    rw [hq] at hla
    have HLA := Lib.hid hla
    clear hst hla
    generalize n.natAbs % 10 = d at *
    have hqb : -9223372036854775808 ≤ q ∧ q ≤ 9223372036854775807 := by omega
    have z1 : IntKind.i64.wrap q = q := IntWalk.i64_in _ (by omega)
    have z2 : IntKind.i64.wrap (d : Int) = (d : Int) := IntWalk.i64_in _ (by omega)
    have z3 : IntKind.i64.wrap (48 + (d : Int)) = 48 + (d : Int) := IntWalk.i64_in _ (by omega)
    have z4 : IntKind.i32.wrap (48 + (d : Int)) = 48 + (d : Int) := by
      have hd2 : ∀ d : Fin 10, IntKind.i32.wrap (48 + (d.val : Int)) = 48 + (d.val : Int) := by decide +kernel
      exact hd2 ⟨d, hd⟩
    have HIH := Lib.hid (fun (hq0 : q ≠ 0) (V : World) => ih q V (by omega) hqb.1 hqb.2)
    generalize UInt8.ofNat (48 + d) = c at *
    have hsz : (strB [c]).size = 1 := rfl
    obtain ⟨D, hD⟩ : ∃ D, D = strB [c] := ⟨_, rfl⟩
    have hIl := Lib.itoa_length_le q hqb.1 hqb.2
    have a1 := fun W => run_string_add_sum (P := Tryz.prog) W (strB (Lib.itoa q)) (strB [c]) (by rw [strB_size, hsz]; omega)
    have a2 := fun W => run_string_add_sum (P := Tryz.prog) W ⟨#[45]⟩ (strB [c]) (by rw [hsz]; simp [ByteArray.size])
    have E1 := Lib.hid (strB_app (Lib.itoa q) [c])
    have E2 := Lib.hid (show (⟨#[45]⟩ : ByteArray) ++ strB [c] = strB [45, c] from strB_app [45] _)
    clear ih hqa hIl hsz
    have HD := Lib.hid hD.symm
    rw [← hD] at he
    simp only [← hD] at a1 a2
    rw [← hD] at E1 E2
    clear hD
    by_cases hq0 : q = 0
    · subst hq0
      have HL := Lib.hid (HLA.out rfl)
      clear HLA HIH HST a1 E1
      by_cases hn : n < 0
      · have HE := Lib.hid (show strB (Lib.itoa n) = ⟨#[45]⟩ ++ D by rw [HL.out, if_pos hn, E2.out])
        rcases hm with ⟨hlt, hm⟩ | ⟨hlt, hm⟩
        · obtain ⟨r, hr⟩ : ∃ r, Int.tmod n 10 = r := ⟨_, rfl⟩
          rw [hr] at hlt hm
          have z5 : IntKind.i64.wrap r = r := IntWalk.i64_in _ (by omega)
          have z6 : IntKind.i64.wrap (-r) = (d : Int) := by rw [IntWalk.i64_in _ (by omega)]; omega
          clear hm
          go_enter Tryz.func115, Tryz.ntmps115
          go_wp2
          go_ret
          exact ⟨by rw [HE.out]; rfl, Below.refl _ _⟩
        · rw [hm] at hlt
          go_enter Tryz.func115, Tryz.ntmps115
          go_wp2
          go_ret
          exact ⟨by rw [HE.out]; rfl, Below.refl _ _⟩
      · have HE := Lib.hid (show strB (Lib.itoa n) = D by rw [HL.out, if_neg hn, HD.out])
        rcases hm with ⟨hlt, hm⟩ | ⟨hlt, hm⟩
        · obtain ⟨r, hr⟩ : ∃ r, Int.tmod n 10 = r := ⟨_, rfl⟩
          rw [hr] at hlt hm
          have z5 : IntKind.i64.wrap r = r := IntWalk.i64_in _ (by omega)
          have z6 : IntKind.i64.wrap (-r) = (d : Int) := by rw [IntWalk.i64_in _ (by omega)]; omega
          clear hm
          go_enter Tryz.func115, Tryz.ntmps115
          go_wp2
          go_ret
          exact ⟨by rw [HE.out]; rfl, Below.refl _ _⟩
        · rw [hm] at hlt
          go_enter Tryz.func115, Tryz.ntmps115
          go_wp2
          go_ret
          exact ⟨by rw [HE.out]; rfl, Below.refl _ _⟩
    · have HE := Lib.hid (show strB (Lib.itoa n) = strB (Lib.itoa q) ++ D by rw [HST.out hq0, E1.out])
      have HI := Lib.hid (HIH.out hq0 w)
      have zq : (q != 0) = true := by rw [bne_iff_ne]; exact hq0
      clear HLA HIH HST a2 E2
      generalize strB (Lib.itoa q) = si at *
      rcases hm with ⟨hlt, hm⟩ | ⟨hlt, hm⟩
      · obtain ⟨r, hr⟩ : ∃ r, Int.tmod n 10 = r := ⟨_, rfl⟩
        rw [hr] at hlt hm
        have z5 : IntKind.i64.wrap r = r := IntWalk.i64_in _ (by omega)
        have z6 : IntKind.i64.wrap (-r) = (d : Int) := by rw [IntWalk.i64_in _ (by omega)]; omega
        clear hm
        go_enter Tryz.func115, Tryz.ntmps115
        go_wp2_with (go_at_call 115; refine HI.out.mono ?_; rintro e w1 ⟨rfl, hb1⟩)
        go_ret
        exact ⟨by rw [HE.out]; rfl, hb1⟩
      · rw [hm] at hlt
        go_enter Tryz.func115, Tryz.ntmps115
        go_wp2_with (go_at_call 115; refine HI.out.mono ?_; rintro e w1 ⟨rfl, hb1⟩)
        go_ret
        exact ⟨by rw [HE.out]; rfl, hb1⟩

theorem decimal_any (n : Int) (w : World) (h0 : -9223372036854775808 ≤ n) (h1 : n ≤ 9223372036854775807) :
    Calls Tryz.prog 115 #[.int .i64 n] w fun e w' => e = .returned (.string (strB (Lib.itoa n))) ∧ Below w.heap.size w w' := dec_any (n.natAbs + 1) n w (by omega) h0 h1

end Go.Proofs.YtoncdnelacolaaaGreatDoor.Ar
