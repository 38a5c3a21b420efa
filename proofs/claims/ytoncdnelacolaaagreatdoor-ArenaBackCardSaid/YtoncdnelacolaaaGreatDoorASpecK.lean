/- The numbers in the texts of moves; what the reference reads of a text, and what Parse does, are the same. -/
import Derived.Test.YtoncdnelacolaaaGreatDoorAParse
import Derived.Lib.Bytealg
import Derived.Laws.BitsLemmas
namespace Go.Proofs.YtoncdnelacolaaaGreatDoor.Ar
open Go

def isDig (c : UInt8) : Bool := decide (48 ≤ c.toNat) && decide (c.toNat ≤ 57)
def digL (s : List UInt8) : List UInt8 := (s.takeWhile isDig).take 19
def stepD (n : Int) (c : UInt8) : Int := IntKind.i64.wrap (IntKind.i64.wrap (10 * n) + ((c.toNat : Int) - 48))
def valD (l : List UInt8) : Int := l.foldl stepD 0
def natD (a : Nat) (l : List UInt8) : Nat := l.foldl (fun a c => a * 10 + (c.toNat - 48)) a

theorem ofNat_dig {d : Nat} (h : d < 10) : (UInt8.ofNat (48 + d)).toNat = 48 + d := by
  rw [UInt8.toNat_ofNat']; omega
theorem dec_dig (u : Nat) : ∀ c ∈ Lib.decDigits u, isDig c = true := by
  induction u using Nat.strongRecOn with
  | _ u ih =>
    intro c hc
    have hd : ∀ d, d < 10 → isDig (UInt8.ofNat (48 + d)) = true := fun d h => by
      unfold isDig
      rw [ofNat_dig h]; simp; omega
    rw [Lib.decDigits] at hc
    split at hc
    · rename_i h
      rw [List.mem_singleton] at hc; rw [hc]; exact hd u h
    · rename_i h
      rcases List.mem_append.1 hc with h1 | h1
      · exact ih (u / 10) (by omega) c h1
      · rw [List.mem_singleton] at h1; rw [h1]; exact hd _ (Nat.mod_lt _ (by omega))
theorem dec_ne (u : Nat) : Lib.decDigits u ≠ [] := by
  rw [Lib.decDigits]
  split <;> simp
theorem nDig_le : ∀ (k u : Nat), u < 10 ^ (k + 1) → Lib.nDigits u ≤ k + 1
  | 0, u, h => by rw [Lib.nDigits_small (by simpa using h)]; omega
  | k + 1, u, h => by
    by_cases h1 : u < 10
    · rw [Lib.nDigits_small h1]; omega
    · rw [Lib.nDigits_big h1]
      have h' : u < 10 * 10 ^ (k + 1) := by rw [Nat.pow_succ, Nat.mul_comm] at h; exact h
      have := nDig_le k (u / 10) (Nat.div_lt_of_lt_mul h')
      omega
theorem dec_len {u : Nat} (h : u < 9223372036854775808) : (Lib.decDigits u).length ≤ 19 := by
  rw [Lib.decDigits_length]
  exact nDig_le 18 u (by omega)
theorem digL_dec {u : Nat} (h : u < 9223372036854775808) (r : List UInt8) (hr : ∀ c, r.head? = some c → isDig c = false) : digL (Lib.decDigits u ++ r) = Lib.decDigits u := by
  unfold digL
  rw [List.takeWhile_append_of_pos (dec_dig u)]
  have h2 : r.takeWhile isDig = [] := by
    cases r with
    | nil => rfl
    | cons c t => rw [List.takeWhile_cons, hr c rfl]; rfl
  rw [h2, List.append_nil, List.take_of_length_le (dec_len h)]
theorem natD_dec (u : Nat) : natD 0 (Lib.decDigits u) = u := by
  induction u using Nat.strongRecOn with
  | _ u ih =>
    rw [Lib.decDigits]
    split
    · rename_i h
      show 0 * 10 + ((UInt8.ofNat (48 + u)).toNat - 48) = u
      rw [ofNat_dig h]; omega
    · rename_i h
      have h1 := ih (u / 10) (by omega)
      unfold natD at h1 ⊢
      rw [List.foldl_append, h1]
      show u / 10 * 10 + ((UInt8.ofNat (48 + u % 10)).toNat - 48) = u
      rw [ofNat_dig (Nat.mod_lt _ (by omega))]; omega
theorem natD_le : ∀ (l : List UInt8) (a : Nat), a ≤ natD a l
  | [], a => Nat.le_refl _
  | c :: r, a => by
    have := natD_le r (a * 10 + (c.toNat - 48))
    show a ≤ natD (a * 10 + (c.toNat - 48)) r
    omega
theorem valD_nat : ∀ (l : List UInt8) (a : Nat), (∀ c ∈ l, isDig c = true) → natD a l < 9223372036854775808 → l.foldl stepD (a : Int) = (natD a l : Int)
  | [], a, _, _ => rfl
  | c :: r, a, hd, hb => by
    have hc := hd c List.mem_cons_self
    unfold isDig at hc
    simp at hc
    have hle : a * 10 + (c.toNat - 48) ≤ natD a (c :: r) := natD_le r (a * 10 + (c.toNat - 48))
    have hs : stepD (a : Int) c = ((a * 10 + (c.toNat - 48) : Nat) : Int) := by
      unfold stepD
      rw [IntWalk.i64_in (10 * (a : Int)) (by omega), IntWalk.i64_in _ (by omega)]
      omega
    rw [List.foldl_cons, hs]
    exact valD_nat r _ (fun x hx => hd x (List.mem_cons_of_mem _ hx)) hb
theorem valD_dec {u : Nat} (h : u < 9223372036854775808) : valD (Lib.decDigits u) = (u : Int) := by
  have := valD_nat (Lib.decDigits u) 0 (dec_dig u) (by rw [natD_dec]; exact h)
  rw [natD_dec] at this
  exact this
theorem parse_nat : ∀ (l : List UInt8) (a : Nat), (∀ c ∈ l, isDig c = true) → natD a l < 9223372036854775808 → Lib.parseUint10 a l = .ok (natD a l)
  | [], a, _, _ => rfl
  | c :: r, a, hd, hb => by
    have hc := hd c List.mem_cons_self
    unfold isDig at hc
    simp at hc
    have hle : a * 10 + (c.toNat - 48) ≤ natD a (c :: r) := natD_le r (a * 10 + (c.toNat - 48))
    rw [Lib.parseUint10, if_pos hc, if_neg (by omega), if_neg (by omega)]
    exact parse_nat r _ (fun x hx => hd x (List.mem_cons_of_mem _ hx)) hb
theorem numI_dec {u : Nat} (h : u < 9223372036854775808) : numI (Lib.decDigits u) = (u : Int) := by
  have hp := parse_nat (Lib.decDigits u) 0 (dec_dig u) (by rw [natD_dec]; exact h)
  rw [natD_dec] at hp
  have hd := dec_dig u
  cases hl : Lib.decDigits u with
  | nil => exact absurd hl (dec_ne u)
  | cons c r =>
    rw [hl] at hp hd
    have hc := hd c List.mem_cons_self
    unfold isDig at hc
    simp at hc
    have ha : Lib.atoiAll (c :: r) = .ok (u : Int) := by
      unfold Lib.atoiAll
      simp only
      rw [if_neg (by omega)]
      unfold Lib.parseMag
      rw [if_neg (by simp), hp]
      simp only
      rw [if_neg (by omega), if_neg (by omega), if_neg (by omega)]
    unfold numI
    rw [ha]
theorem itoa_dec {n : Int} (h : 0 ≤ n) : Lib.itoa n = Lib.decDigits n.toNat := by unfold Lib.itoa; rw [if_neg (by omega)]
theorem indexB_hit : ∀ (p v : List UInt8) (c : UInt8), c ∉ p → Lib.indexByte (p ++ c :: v) c = (p.length : Int)
  | [], v, c, _ => by simp [Lib.indexByte]
  | b :: p, v, c, h => by
    have h1 := indexB_hit p v c (fun hc => h (List.mem_cons_of_mem _ hc))
    have hb : (b == c) = false := by rw [beq_eq_false_iff_ne]; intro e; exact h (by rw [e]; exact List.mem_cons_self)
    show (if b == c then (0 : Int) else if Lib.indexByte (p ++ c :: v) c == -1 then -1 else Lib.indexByte (p ++ c :: v) c + 1) = _
    rw [hb, h1]
    have h2 : ((p.length : Int) == -1) = false := by rw [beq_eq_false_iff_ne]; omega
    rw [h2]
    simp
theorem indexB_none : ∀ (s : List UInt8) (c : UInt8), c ∉ s → Lib.indexByte s c = -1
  | [], c, _ => rfl
  | b :: p, c, h => by
    have h1 := indexB_none p c (fun hc => h (List.mem_cons_of_mem _ hc))
    have hb : (b == c) = false := by rw [beq_eq_false_iff_ne]; intro e; exact h (by rw [e]; exact List.mem_cons_self)
    show (if b == c then (0 : Int) else if Lib.indexByte p c == -1 then -1 else Lib.indexByte p c + 1) = _
    rw [hb, h1]
    rfl
theorem cut_hit (p v : List UInt8) (c : UInt8) (h : c ∉ p) : Lib.cut (p ++ c :: v) [c] = (p, v, true) := by
  unfold Lib.cut
  rw [Lib.index_one, indexB_hit p v c h, if_pos (by omega), Int.toNat_natCast]
  rw [List.take_left, show p.length + [c].length = p.length + 1 from rfl, ← List.drop_drop, List.drop_left]
  rfl
theorem cut_no (s : List UInt8) (c : UInt8) (h : c ∉ s) : Lib.cut s [c] = (s, [], false) := by
  unfold Lib.cut
  rw [Lib.index_one, indexB_none s c h, if_neg (by omega)]

/-- The sign of a kind, one byte. -/
def signB (k : Nat) : UInt8 := if k = 1 then 63 else if k = 2 then 61 else 33
theorem signL_one (k : Nat) : signL k = [signB k] := by unfold signL signB; split; rfl; split <;> rfl
theorem dig_not {l : List UInt8} (h : ∀ c ∈ l, isDig c = true) {x : UInt8} (hx : isDig x = false) : x ∉ l := fun hm => by rw [h x hm] at hx; cases hx
theorem signB_no (k : Nat) : isDig (signB k) = false ∧ signB k ≠ 46 := by
  unfold signB
  split
  · exact ⟨rfl, by decide⟩
  · split
    · exact ⟨rfl, by decide⟩
    · exact ⟨rfl, by decide⟩
theorem okText_parts {m : Mv} (h : okText m = true) : 0 ≤ m.id ∧ 0 ≤ m.arg ∧ (m.kind = 1 ∨ m.kind = 2 ∨ m.kind = 3) ∧ (valueT m).2 = true := by
  unfold okText at h
  simp only [Bool.and_eq_true, Bool.not_eq_true', decide_eq_false_iff_not, Bool.or_eq_true, beq_iff_eq] at h
  obtain ⟨⟨⟨h1, h2⟩, h3⟩, h4⟩ := h
  exact ⟨by omega, by omega, by omega, h4⟩
/-- The place of a move that has a text. -/
theorem placeT_ok {m : Mv} (h1 : 0 ≤ m.id) (h2 : 0 ≤ m.arg) : placeT m = if m.arg = 0 then Lib.decDigits m.id.toNat else Lib.decDigits m.id.toNat ++ 46 :: Lib.decDigits m.arg.toNat := by
  unfold placeT
  rw [itoa_dec h1, itoa_dec h2]
  split
  · rfl
  · rw [List.append_assoc]; rfl
theorem sign_place {m : Mv} (h1 : 0 ≤ m.id) (h2 : 0 ≤ m.arg) (k : Nat) : signB k ∉ placeT m := by
  obtain ⟨s1, s2⟩ := signB_no k
  rw [placeT_ok h1 h2]
  split
  · exact dig_not (dec_dig _) s1
  · intro hm
    rcases List.mem_append.1 hm with h | h
    · exact dig_not (dec_dig _) s1 h
    · rcases List.mem_cons.1 h with h | h
      · exact s2 h
      · exact dig_not (dec_dig _) s1 h
theorem value_cases {m : Mv} (_hk : m.kind = 1 ∨ m.kind = 2 ∨ m.kind = 3) (hv : (valueT m).2 = true) :
    (m.kind = 1 ∧ m.n = 0 ∧ (valueT m).1 = []) ∨ (m.kind = 3 ∧ m.n = -1 ∧ (valueT m).1 = [42]) ∨ (m.kind ≠ 1 ∧ 0 ≤ m.n ∧ (valueT m).1 = Lib.decDigits m.n.toNat) := by
  unfold valueT at hv ⊢
  split
  · rename_i h
    rw [if_pos h] at hv
    exact .inl ⟨h, by simpa using hv, rfl⟩
  · rename_i h
    rw [if_neg h] at hv
    split
    · rename_i h2
      exact .inr (.inl ⟨h2.1, h2.2, rfl⟩)
    · rename_i h2
      rw [if_neg h2] at hv
      have h3 : 0 ≤ m.n := by simpa using hv
      exact .inr (.inr ⟨h, h3, itoa_dec h3⟩)
theorem dec_star (u : Nat) : Lib.decDigits u ≠ [42] := fun e => by
  have := dec_dig u 42 (by rw [e]; exact List.mem_cons_self)
  cases this
theorem textL_form (m : Mv) : textL m = placeT m ++ signB m.kind :: (valueT m).1 := by
  unfold textL
  rw [signL_one, List.append_assoc]; rfl
/-- The move of its kind that the text of a move says is this one. -/
theorem moveOf_text {m : Mv} (hm : MvOk m) (h : okText m = true) : moveOfL (textL m) m.kind = m := by
  obtain ⟨h1, h2, h3, h4⟩ := okText_parts h
  have b1 := hm.id1
  have b2 := hm.arg1
  have b3 := hm.n1
  have hc : Lib.cut (textL m) (signL m.kind) = (placeT m, (valueT m).1, true) := by
    rw [textL_form, signL_one]
    exact cut_hit _ _ _ (sign_place h1 h2 _)
  have hid : numI (Lib.cut (placeT m) [46]).1 = m.id ∧ numI (Lib.cut (placeT m) [46]).2.1 = m.arg := by
    rw [placeT_ok h1 h2]
    split
    · rename_i ha
      rw [cut_no _ _ (dig_not (dec_dig _) rfl)]
      exact ⟨by rw [numI_dec (by omega)]; omega, by rw [ha]; rfl⟩
    · rw [cut_hit _ _ _ (dig_not (dec_dig _) rfl)]
      exact ⟨by rw [numI_dec (by omega)]; omega, by rw [numI_dec (by omega)]; omega⟩
  have hn : (if (valueT m).1 = [42] then (-1 : Int) else numI (valueT m).1) = m.n := by
    rcases value_cases h3 h4 with ⟨_, e1, e2⟩ | ⟨_, e1, e2⟩ | ⟨_, e1, e2⟩
    · rw [e2, e1]; rfl
    · rw [e2, e1]; rfl
    · rw [e2, if_neg (dec_star _), numI_dec (by omega)]; omega
  unfold moveOfL
  simp only [hc]
  rw [hid.1, hid.2, hn]

/-- What the reference reads of a text. -/
def refQ (s : List UInt8) : Int × List UInt8 :=
  if (s.drop (digL s).length).head? = some 46 then (valD (digL ((s.drop (digL s).length).drop 1)), (s.drop (digL s).length).drop (1 + (digL ((s.drop (digL s).length).drop 1)).length)) else (0, s.drop (digL s).length)
def kindB (c : UInt8) : Nat := if c = 63 then 1 else if c = 61 then 2 else if c = 33 then 3 else 0
def refO (s : List UInt8) : Option Mv := match (refQ s).2 with
  | [] => none
  | c :: t => some ⟨valD (digL s), (refQ s).1, kindB c, if (refQ s).2 = [33, 42] then -1 else valD (digL t)⟩
/-- What the reference returns. -/
def refR (s : List UInt8) : Value := match refO s with
  | none => .tuple #[mvV ⟨0, 0, 0, 0⟩, .int .i64 4]
  | some m => if okText m = true ∧ textL m = s then .tuple #[mvV m, .int .i64 0] else .tuple #[mvV ⟨0, 0, 0, 0⟩, .int .i64 4]
theorem wrap_b (x : Int) : -9223372036854775808 ≤ IntKind.i64.wrap x ∧ IntKind.i64.wrap x ≤ 9223372036854775807 := by
  rw [IntKind.wrap_i64]; omega
theorem valD_b (l : List UInt8) : -9223372036854775808 ≤ valD l ∧ valD l ≤ 9223372036854775807 := by
  unfold valD
  rcases List.eq_nil_or_concat l with rfl | ⟨r, c, rfl⟩
  · simp
  · rw [List.concat_eq_append, List.foldl_append]
    exact wrap_b _
theorem refO_ok {s : List UInt8} {m : Mv} (h : refO s = some m) : MvOk m := by
  unfold refO at h
  split at h
  · cases h
  · rename_i c t hq
    cases h
    have h1 := valD_b (digL s)
    have h2 : -9223372036854775808 ≤ (refQ s).1 ∧ (refQ s).1 ≤ 9223372036854775807 := by
      unfold refQ
      split
      · exact valD_b _
      · simp
    have h3 := valD_b (digL t)
    refine ⟨h1.1, h1.2, h2.1, h2.2, ?_, ?_, ?_⟩
    · show kindB c < 256
      unfold kindB
      repeat' split
      all_goals omega
    · show -9223372036854775808 ≤ if (refQ s).2 = [33, 42] then (-1 : Int) else valD (digL t)
      split <;> omega
    · show (if (refQ s).2 = [33, 42] then (-1 : Int) else valD (digL t)) ≤ 9223372036854775807
      split <;> omega
theorem kind_sign {k : Nat} (h : k = 1 ∨ k = 2 ∨ k = 3) : kindB (signB k) = k := by rcases h with rfl | rfl | rfl <;> rfl
/-- What the reference reads of the text of a move is this move. -/
theorem refO_text {m : Mv} (hm : MvOk m) (h : okText m = true) : refO (textL m) = some m := by
  obtain ⟨h1, h2, h3, h4⟩ := okText_parts h
  have b1 := hm.id1
  have b2 := hm.arg1
  have b3 := hm.n1
  obtain ⟨s1, s2⟩ := signB_no m.kind
  have hd1 : digL (textL m) = Lib.decDigits m.id.toNat := by
    rw [textL_form, placeT_ok h1 h2]
    split
    · exact digL_dec (by omega) _ (fun c hc => by simp at hc; rw [← hc]; exact s1)
    · rw [List.append_assoc]
      exact digL_dec (by omega) _ (fun c hc => by simp at hc; rw [← hc]; rfl)
  have hq : refQ (textL m) = (m.arg, signB m.kind :: (valueT m).1) := by
    unfold refQ
    rw [hd1, textL_form, placeT_ok h1 h2]
    by_cases ha : m.arg = 0
    · rw [if_pos ha, List.drop_left, if_neg (by simpa using s2), ha]
    · rw [if_neg ha, List.append_assoc, List.drop_left, List.cons_append, List.head?_cons, if_pos rfl, ← List.cons_append]
      have hd2 : digL ((46 :: Lib.decDigits m.arg.toNat ++ signB m.kind :: (valueT m).1).drop 1) = Lib.decDigits m.arg.toNat :=
        digL_dec (by omega) _ (fun c hc => by simp at hc; rw [← hc]; exact s1)
      rw [hd2, valD_dec (by omega), Nat.add_comm, ← List.drop_drop]
      refine Prod.ext ?_ ?_
      · show ((m.arg.toNat : Nat) : Int) = m.arg
        omega
      · show List.drop 1 (List.drop (Lib.decDigits m.arg.toNat).length (46 :: Lib.decDigits m.arg.toNat ++ signB m.kind :: (valueT m).1)) = _
        rw [List.drop_drop, Nat.add_comm, ← List.drop_drop]
        show List.drop (Lib.decDigits m.arg.toNat).length (Lib.decDigits m.arg.toNat ++ signB m.kind :: (valueT m).1) = _
        rw [List.drop_left]
  have hn : (if signB m.kind :: (valueT m).1 = [33, 42] then (-1 : Int) else valD (digL (valueT m).1)) = m.n := by
    rcases value_cases h3 h4 with ⟨e0, e1, e2⟩ | ⟨e0, e1, e2⟩ | ⟨e0, e1, e2⟩
    · rw [e2, e1, e0]; rfl
    · rw [e2, e1, e0]; rfl
    · rw [e2, if_neg (by intro e; simp at e; exact dec_star _ e.2)]
      have := digL_dec (u := m.n.toNat) (by omega) [] (fun c hc => by cases hc)
      rw [List.append_nil] at this
      rw [this, valD_dec (by omega)]; omega
  unfold refO
  simp only [hq]
  rw [hd1, hn, valD_dec (by omega), kind_sign h3]
  have : ((m.id.toNat : Nat) : Int) = m.id := by omega
  rw [this]
/-- Both read the same. -/
theorem parseP_ref {s : List UInt8} {v : Value} (h : ParseP s v) : v = refR s := by
  rcases h with ⟨k, hk, ht, rfl⟩ | ⟨hn, rfl⟩
  · have hok : okText (moveOfL s k) = true ∧ textL (moveOfL s k) = s := by
      unfold tryK at ht
      split at ht
      · assumption
      · cases ht
    have hr := refO_text (moveOfL_ok s k (by omega)) hok.1
    rw [hok.2] at hr
    unfold refR
    rw [hr]
    simp only
    rw [if_pos hok]
  · unfold refR
    cases hr : refO s with
    | none => rfl
    | some m =>
      simp only
      rw [if_neg]
      intro hok
      have hmv := moveOf_text (refO_ok hr) hok.1
      rw [hok.2] at hmv
      have := hn m.kind (okText_parts hok.1).2.2.1
      unfold tryK at this
      rw [hmv, if_pos hok] at this
      cases this

end Go.Proofs.YtoncdnelacolaaaGreatDoor.Ar
