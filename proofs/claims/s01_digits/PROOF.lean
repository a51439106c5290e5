import PyProof.Rows.All
import Wide.All
import OpenK.AllK
import Wide.FinOn
import KE.OsGo
import KE.OsArgs
import PySem.Challenge.RW_pointdigits_s01_digits
open PySem PySem.W PyProof.Rows
set_option Elab.async false
namespace My
/-! ## What the power's loop keeps -/
/-- what q to the power e leaves by b -/
@[irreducible] def pw (q e b : Int) : Int := ((q.toNat ^ e.toNat % b.toNat : Nat) : Int)

theorem toNat_fmod {x b : Int} (hx : 0 ≤ x) (hb : 0 < b) : Int.fmod x b = ((x.toNat % b.toNat : Nat) : Int) := by
  rw [Int.fmod_eq_emod_of_nonneg x (Int.le_of_lt hb), Int.natCast_emod, Int.toNat_of_nonneg hx, Int.toNat_of_nonneg (Int.le_of_lt hb)]
theorem toNat_fdiv {x b : Int} (hx : 0 ≤ x) (hb : 0 < b) : Int.fdiv x b = ((x.toNat / b.toNat : Nat) : Int) := by
  rw [Int.fdiv_eq_ediv_of_nonneg x (Int.le_of_lt hb), Int.natCast_ediv, Int.toNat_of_nonneg hx, Int.toNat_of_nonneg (Int.le_of_lt hb)]

theorem fmod_in {x b : Int} (hb : 0 < b) : 0 ≤ Int.fmod x b ∧ Int.fmod x b < b := ⟨Int.fmod_nonneg_of_pos x hb, Int.fmod_lt_of_pos x hb⟩

/-- between two turns: q₀ to the power e₀ leaves what left times square to the power rest leaves -/
structure Pow (q e b left square rest : Int) : Prop where
  eq : left.toNat * square.toNat ^ rest.toNat % b.toNat = q.toNat ^ e.toNat % b.toNat

theorem pow_start {q e b : Int} (hq : 0 ≤ q) (hb : 0 < b) : Pow q e b (Int.fmod 1 b) (Int.fmod q b) e := by
  refine ⟨?_⟩
  rw [toNat_fmod (by decide) hb, toNat_fmod hq hb, Int.toNat_natCast, Int.toNat_natCast]
  rw [Nat.mul_mod, Nat.mod_mod, ← Nat.pow_mod, ← Nat.mul_mod]
  show 1 * _ % _ = _
  rw [Nat.one_mul]

theorem sq_half {s r b : Nat} : (s * s % b) ^ (r / 2) * s ^ (r % 2) % b = s ^ r % b := by
  have e : s ^ r = (s * s) ^ (r / 2) * s ^ (r % 2) := by
    have h : r = 2 * (r / 2) + r % 2 := by omega
    have h2 : s * s = s ^ 2 := by rw [Nat.pow_two]
    rw [h2, ← Nat.pow_mul, ← Nat.pow_add, ← h]
  rw [e, Nat.mul_mod, ← Nat.pow_mod, ← Nat.mul_mod]

theorem half {r : Int} (hr : 0 < r) : (Int.fdiv r 2).toNat = r.toNat / 2 := by
  rw [Int.fdiv_eq_ediv_of_nonneg r (by decide)]
  omega
theorem half_in {r : Int} (hr : 0 < r) : 0 ≤ Int.fdiv r 2 ∧ Int.fdiv r 2 ≤ r := by
  rw [Int.fdiv_eq_ediv_of_nonneg r (by decide)]
  omega
theorem less {r : Int} (hr : 0 < r) : (Int.fdiv r 2).toNat < r.toNat := by
  rw [half hr]
  omega
theorem sq_nat {s b : Int} (hs : 0 ≤ s) (hb : 0 < b) : (Int.fmod (s * s) b).toNat = s.toNat * s.toNat % b.toNat := by
  rw [toNat_fmod (Int.mul_nonneg hs hs) hb, Int.toNat_natCast, Int.toNat_mul hs hs]
theorem mul_nat {l s b : Int} (hl : 0 ≤ l) (hs : 0 ≤ s) (hb : 0 < b) : (Int.fmod (l * s) b).toNat = l.toNat * s.toNat % b.toNat := by
  rw [toNat_fmod (Int.mul_nonneg hl hs) hb, Int.toNat_natCast, Int.toNat_mul hl hs]

theorem pow_odd {q e b l s r : Int} (P : Pow q e b l s r) (hr : 0 < r) (ho : Int.fmod r 2 = 1) (hl : 0 ≤ l) (hs : 0 ≤ s) (hb : 0 < b) :
    Pow q e b (Int.fmod (l * s) b) (Int.fmod (s * s) b) (Int.fdiv r 2) := by
  refine ⟨?_⟩
  have o : r.toNat % 2 = 1 := by
    rw [Int.fmod_eq_emod_of_nonneg r (by decide)] at ho
    omega
  have k := @sq_half s.toNat r.toNat b.toNat
  rw [o, Nat.pow_one] at k
  rw [sq_nat hs hb, mul_nat hl hs hb, half hr, ← P.eq, Nat.mod_mul_mod, Nat.mul_assoc, Nat.mul_mod, Nat.mul_comm s.toNat, k, ← Nat.mul_mod]

theorem pow_even {q e b l s r : Int} (P : Pow q e b l s r) (hr : 0 < r) (ho : ¬ Int.fmod r 2 = 1) (hs : 0 ≤ s) (hb : 0 < b) :
    Pow q e b l (Int.fmod (s * s) b) (Int.fdiv r 2) := by
  refine ⟨?_⟩
  have o : r.toNat % 2 = 0 := by
    rw [Int.fmod_eq_emod_of_nonneg r (by decide)] at ho
    omega
  have k := @sq_half s.toNat r.toNat b.toNat
  rw [o, Nat.pow_zero, Nat.mul_one] at k
  rw [sq_nat hs hb, half hr, ← P.eq, Nat.mul_mod, k, ← Nat.mul_mod]

theorem pow_out {q e b l s r : Int} (P : Pow q e b l s r) (h0 : 0 ≤ r) (hr : ¬ 0 < r) (hl : 0 ≤ l) (hlb : l < b) : l = pw q e b := by
  have z : r = 0 := by omega
  have h := P.eq
  rw [z, Int.toNat_zero, Nat.pow_zero, Nat.mul_one, Nat.mod_eq_of_lt (by omega)] at h
  unfold pw
  rw [← h, Int.toNat_of_nonneg hl]

theorem pw_in {q e b : Int} (hb : 0 < b) : 0 ≤ pw q e b ∧ pw q e b < b := by
  unfold pw
  refine ⟨Int.natCast_nonneg _, ?_⟩
  have := Nat.mod_lt (q.toNat ^ e.toNat) (show 0 < b.toNat by omega)
  omega

/-! ## What the digits' loop keeps -/
/-- so many digits from the i-th on -/
def ds (q a b i : Int) (m : Nat) : List Int := (List.range m).map fun (k : Nat) => ((Sn84.digit q.toNat a.toNat b.toNat (i.toNat + k) : Nat) : Int)

/-- between two turns: m digits are told, left is what is left ahead of the next -/
structure Told (q a b i n : Int) (m : Nat) (answer : List Int) (left : Int) : Prop where
  out : answer = n :: ds q a b i m
  is : left.toNat = Sn84.rest q.toNat a.toNat b.toNat (i.toNat - 1 + m)

theorem told_start {q a b i n p : Int} (ha : 0 ≤ a) (hb : 0 < b) (hi : 1 ≤ i) (hp : p = pw q (i - 1) b) : Told q a b i n 0 [n] (Int.fmod (a * p) b) := by
  refine ⟨rfl, ?_⟩
  have p0 := pw_in (q := q) (e := i - 1) hb
  have e : (i - 1).toNat = i.toNat - 1 := by omega
  rw [hp, mul_nat ha p0.1 hb]
  unfold pw
  show a.toNat * (((q.toNat ^ (i - 1).toNat % b.toNat : Nat) : Int)).toNat % b.toNat = a.toNat * q.toNat ^ (i.toNat - 1 + 0) % b.toNat
  rw [Int.toNat_natCast, e, Nat.add_zero, Nat.mul_mod_mod]

theorem digit_rest (q a b j : Nat) (hb : 0 < b) (hq : 0 < q) : Sn84.digit q a b (j + 1) = Sn84.rest q a b j * q / b := by
  unfold Sn84.digit Sn84.rest
  have e : a * q ^ (j + 1) = a * q ^ j % b * q + b * (a * q ^ j / b * q) := by
    have h := Nat.mod_add_div (a * q ^ j) b
    rw [Nat.pow_succ, ← Nat.mul_assoc, ← Nat.mul_assoc, ← Nat.add_mul, h]
  rw [e, Nat.add_mul_div_left _ _ hb, Nat.add_mul_mod_self_right, Nat.mod_eq_of_lt]
  rw [Nat.div_lt_iff_lt_mul hb, Nat.mul_comm q b]
  exact Nat.mul_lt_mul_of_pos_right (Nat.mod_lt _ hb) hq
theorem rest_next (q a b j : Nat) : Sn84.rest q a b (j + 1) = Sn84.rest q a b j * q % b := by
  unfold Sn84.rest
  rw [Nat.pow_succ, ← Nat.mul_assoc, Nat.mod_mul_mod]

theorem told_turn {q a b i n left : Int} {m : Nat} {answer : List Int} (T : Told q a b i n m answer left) (hl : 0 ≤ left) (hq : 0 < q) (hb : 0 < b) (hi : 1 ≤ i) :
    Told q a b i n (m + 1) (answer ++ [Int.fdiv (left * q) b]) (Int.fmod (left * q) b) := by
  have q0 : 0 ≤ q := Int.le_of_lt hq
  have b' : 0 < b.toNat := by omega
  have q' : 0 < q.toNat := by omega
  refine ⟨?_, ?_⟩
  · rw [T.out]
    unfold ds
    rw [List.range_succ, List.map_append, List.cons_append]
    refine congrArg _ (congrArg _ ?_)
    show [_] = [_]
    refine congrArg (fun x => [x]) ?_
    have e : i.toNat + m = i.toNat - 1 + m + 1 := by omega
    show _ = ((Sn84.digit q.toNat a.toNat b.toNat (i.toNat + m) : Nat) : Int)
    rw [e, digit_rest _ _ _ _ b' q', ← T.is, toNat_fdiv (Int.mul_nonneg hl q0) hb, Int.toNat_mul hl q0]
  · rw [mul_nat hl q0 hb, T.is, ← Nat.add_assoc, rest_next]

/-! ## The answer -/
theorem digits_eq (q a b i n : Int) : PySn84.digits q a b i n =
    if (Sn84.based q && (Sn84.taken a.toNat b.toNat && (decide (1 ≤ i) && Sn84.between n 0 Sn84.LONG))) = false then [-2] else n :: ds q a b i n.toNat := rfl
theorem due {q a b i n : Int} (q1 : 2 ≤ q) (q2 : q ≤ 36) (a1 : 0 ≤ a) (a2 : a ≤ 1000000000) (b1 : 1 ≤ b) (b2 : b ≤ 1000000000) (hi : 1 ≤ i) (n1 : 0 ≤ n) (n2 : n ≤ 4096) :
    PySn84.digits q a b i n = n :: ds q a b i n.toNat := by
  rw [digits_eq, if_neg]
  simp only [Sn84.based, Sn84.between, Sn84.taken, Bool.and_eq_false_iff, decide_eq_false_iff_not]
  simp only [Sn84.BASE, Sn84.HIGH, Sn84.LONG]
  omega
theorem refused {q a b i n : Int} (h : q < 2 ∨ 36 < q ∨ 1000000000 < a ∨ b < 1 ∨ 1000000000 < b ∨ i < 1 ∨ n < 0 ∨ 4096 < n) :
    PySn84.digits q a b i n = [-2] := by
  rw [digits_eq, if_pos]
  simp only [Sn84.based, Sn84.between, Sn84.taken, Bool.and_eq_false_iff, decide_eq_false_iff_not]
  simp only [Sn84.BASE, Sn84.HIGH, Sn84.LONG]
  omega
end My
namespace My
theorem told_fold {q a b i n : Int} (hq : 0 < q) (hb : 0 < b) (hi : 1 ≤ i) : ∀ (L : List Int) (left : Int) (answer : List Int) (m : Nat),
    0 ≤ left → Told q a b i n m answer left →
    (L.foldl (fun (p : Int × List Int) (_ : Int) => (Int.fmod (p.1 * q) b, p.2 ++ [Int.fdiv (p.1 * q) b])) (left, answer)).2 = n :: ds q a b i (m + L.length)
  | [], _, _, _, _, T => T.out
  | _ :: L, left, answer, m, hl, T => by
    rw [List.foldl_cons, told_fold hq hb hi L _ _ (m + 1) (fmod_in hb).1 (told_turn T hl hq hb hi), List.length_cons]
    have e : m + 1 + L.length = m + (L.length + 1) := by omega
    rw [e]
end My
namespace My
theorem p_start {q e b : Int} (hb : 0 < b) (hq : 0 ≤ q) (he : 0 ≤ e) :
    0 ≤ Int.fmod 1 b ∧ Int.fmod 1 b < b ∧ 0 ≤ Int.fmod q b ∧ Int.fmod q b < b ∧ 0 ≤ e ∧ e ≤ e ∧ Pow q e b (Int.fmod 1 b) (Int.fmod q b) e :=
  ⟨(fmod_in hb).1, (fmod_in hb).2, (fmod_in hb).1, (fmod_in hb).2, he, Int.le_refl e, pow_start hq hb⟩
theorem p_odd {q e b l s r : Int} (P : Pow q e b l s r) (ho : Int.fmod r 2 = 1) (hr : 0 < r) (hre : r ≤ e) (hl : 0 ≤ l) (hs : 0 ≤ s) (hb : 0 < b) :
    0 ≤ Int.fmod (l * s) b ∧ Int.fmod (l * s) b < b ∧ 0 ≤ Int.fmod (s * s) b ∧ Int.fmod (s * s) b < b ∧ 0 ≤ Int.fdiv r 2 ∧ Int.fdiv r 2 ≤ e ∧ Pow q e b (Int.fmod (l * s) b) (Int.fmod (s * s) b) (Int.fdiv r 2) :=
  ⟨(fmod_in hb).1, (fmod_in hb).2, (fmod_in hb).1, (fmod_in hb).2, (half_in hr).1, Int.le_trans (half_in hr).2 hre, pow_odd P hr ho hl hs hb⟩
theorem p_even {q e b l s r : Int} (P : Pow q e b l s r) (ho : ¬ Int.fmod r 2 = 1) (hr : 0 < r) (hre : r ≤ e) (hl : 0 ≤ l) (hlb : l < b) (hs : 0 ≤ s) (hb : 0 < b) :
    0 ≤ l ∧ l < b ∧ 0 ≤ Int.fmod (s * s) b ∧ Int.fmod (s * s) b < b ∧ 0 ≤ Int.fdiv r 2 ∧ Int.fdiv r 2 ≤ e ∧ Pow q e b l (Int.fmod (s * s) b) (Int.fdiv r 2) :=
  ⟨hl, hlb, (fmod_in hb).1, (fmod_in hb).2, (half_in hr).1, Int.le_trans (half_in hr).2 hre, pow_even P hr ho hs hb⟩
section
open PySem PySem.Calls PyProof.Rows
variable {prog : Program} {w : World} {A : Around} {E : Value → Shared → Prop} {s : Shared} {x y : Int} {t u : Tok} {Q : Value → Shared → Prop}
theorem step_mulR (lo : 0 ≤ y) (hi : y ≤ 1000000000) (h : Q (.int (x * y) s.toks) { s with toks := s.toks + 1 }) :
    wpAny (model prog w) A (binaryOp .Mult (.int x t) (.int y u)) Q E s :=
  PyProof.Rows.mul_int h (PySem.IntMulOk.of_right (PySem.intBits_le_64 (by omega) (by omega)))
theorem step_mulL (lo : 0 ≤ x) (hi : x ≤ 1000000000) (h : Q (.int (x * y) s.toks) { s with toks := s.toks + 1 }) :
    wpAny (model prog w) A (binaryOp .Mult (.int x t) (.int y u)) Q E s :=
  PyProof.Rows.mul_int h (PySem.IntMulOk.of_left (PySem.intBits_le_64 (by omega) (by omega)))
theorem step_div (lo : 0 < y) (hi : y ≤ 1000000000) (h : Q (.int (Int.fdiv x y) s.toks) { s with toks := s.toks + 1 }) :
    wpAny (model prog w) A (binaryOp .FloorDiv (.int x t) (.int y u)) Q E s :=
  PyProof.Rows.floordiv_int (by omega) h (Or.inl (PyProof.noPylong_small (by omega)))
theorem step_mod (lo : 0 < y) (h : Q (.int (Int.fmod x y) s.toks) { s with toks := s.toks + 1 }) :
    wpAny (model prog w) A (binaryOp .Mod (.int x t) (.int y u)) Q E s :=
  PyProof.Rows.mod_int (by omega) h
end
theorem said : PySem.Challenge.rw_pointdigits_s01_digits.wellSaid = true := by decide +kernel
end My
local macro_rules | `(tactic| walk_at "binaryOp FloorDiv int int") => `(tactic| (k_here; (with_reducible refine' My.step_div ?k1 ?k2 ?_); (case k1 => k_dflt omega); (case k2 => k_dflt omega)))
local macro_rules | `(tactic| walk_at "binaryOp Mod int int") => `(tactic| (k_here; (with_reducible refine' My.step_mod ?k1 ?_); (case k1 => k_dflt omega)))
local macro_rules | `(tactic| walk_at "binaryOp Mult int int") => `(tactic| (k_here; (with_reducible refine' My.step_mulL ?k1 ?k2 ?_); (case k1 => k_dflt omega); (case k2 => k_dflt omega)))
local macro_rules | `(tactic| walk_at "binaryOp Mult int int") => `(tactic| (k_here; (with_reducible refine' My.step_mulR ?k1 ?k2 ?_); (case k1 => k_dflt omega); (case k2 => k_dflt omega)))
example : Int → Int → Int → List Int → Int → Int → Int → Prop := fun q e b _ left square rest => 0 ≤ left ∧ left < b ∧ 0 ≤ square ∧ square < b ∧ 0 ≤ rest ∧ rest ≤ e ∧ My.Pow q e b left square rest
set_option maxRecDepth 100000 in
set_option maxHeartbeats 8000000 in
theorem PySem.Challenge.cw_pointdigits_s01_digits_holds : PySem.Challenge.rw_pointdigits_s01_digits.Holds := by
  k_with "call ref" => k_call_by "power_left" My.pw (fun (q e b : Int) => 0 ≤ q ∧ 0 ≤ e ∧ 1 ≤ b ∧ b ≤ 1000000000)
  k_with "tree" => exact My.pow_out (by assumption) (by omega) (by omega) (by omega) (by omega)
  k_with "state" => first
    | with_reducible exact My.p_start (by omega) (by omega) (by omega)
    | with_reducible exact My.p_odd (by assumption) (by assumption) (by omega) (by omega) (by omega) (by omega) (by omega)
    | with_reducible exact My.p_even (by assumption) (by assumption) (by omega) (by omega) (by omega) (by omega) (by omega) (by omega)
  k_with "measure" => exact My.less (by omega)
  k_with "exec While Compare cons nil" => k_while_given ["q", "exponent", "b"] (fun q e b _ left square rest => 0 ≤ left ∧ left < b ∧ 0 ≤ square ∧ square < b ∧ 0 ≤ rest ∧ rest ≤ e ∧ My.Pow q e b left square rest) (fun _ _ _ _ _ _ r => r.toNat) "left" "square" "rest"
  open_ks with [.int 10, .int 1, .int 7, .int 1, .int 1]
  all_goals
    os_open My.said with v w k e
    obtain ⟨x1, x2, x3, x4, x5, u⟩ := v
    have e1 := os_j_int (List.cons.inj e).1
    have e2 := os_j_int (List.cons.inj (List.cons.inj e).2).1
    have e3 := os_j_int (List.cons.inj (List.cons.inj (List.cons.inj e).2).2).1
    have e4 := os_j_int (List.cons.inj (List.cons.inj (List.cons.inj (List.cons.inj e).2).2).2).1
    have e5 := os_j_int (List.cons.inj (List.cons.inj (List.cons.inj (List.cons.inj (List.cons.inj e).2).2).2).2).1
    have b2 : @LE.le Int Int.instLEInt 0 x2 := by
      have w2 := (Bool.and_eq_true_iff.mp (Bool.and_eq_true_iff.mp w).2).1
      exact of_decide_eq_true (Bool.and_eq_true_iff.mp w2).1
    subst e1 e2 e3 e4 e5
    clear e k w
  · show WData.list (ofPys (List.map PyData.int _)) = WData.list ((PySn84.digits _ _ _ _ _).map WData.int)
    rw [ofPys_ints, My.due (by omega) (by omega) (by omega) (by omega) (by omega) (by omega) (by omega) (by omega) (by omega)]
    refine congrArg (fun z => WData.list (List.map WData.int z)) ?_
    refine (My.told_fold (by omega) (by omega) (by omega) _ _ _ 0 (My.fmod_in (by omega)).1 (My.told_start (by omega) (by omega) (by omega) rfl)).trans ?_
    rw [rangeKs_length, Nat.zero_add, Int.sub_zero]
  all_goals
    show ofPy (PyData.list [PyData.int (-2)]) = WData.list ((PySn84.digits _ _ _ _ _).map WData.int)
    refine (os_list (ys := [-2]) rfl).trans (congrArg (fun z => WData.list (List.map WData.int z)) (My.refused ?_).symm)
    dsimp only
    omega
#print axioms PySem.Challenge.cw_pointdigits_s01_digits_holds
