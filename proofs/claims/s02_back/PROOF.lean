import PyProof.Rows.All
import Wide.All
import OpenK.AllK
import Wide.FinOn
import KE.OsGo
import KE.OsArgs
import PySem.Challenge.RW_pointdigits_s02_back
open PySem PySem.W PyProof.Rows
set_option Elab.async false
namespace Bk
theorem toNat_fmod {x b : Int} (hx : 0 ≤ x) (hb : 0 < b) : Int.fmod x b = ((x.toNat % b.toNat : Nat) : Int) := by
  rw [Int.fmod_eq_emod_of_nonneg x (Int.le_of_lt hb), Int.natCast_emod, Int.toNat_of_nonneg hx, Int.toNat_of_nonneg (Int.le_of_lt hb)]
theorem toNat_fdiv {x b : Int} (hx : 0 ≤ x) (hb : 0 < b) : Int.fdiv x b = ((x.toNat / b.toNat : Nat) : Int) := by
  rw [Int.fdiv_eq_ediv_of_nonneg x (Int.le_of_lt hb), Int.natCast_ediv, Int.toNat_of_nonneg hx, Int.toNat_of_nonneg (Int.le_of_lt hb)]
theorem fmod_in {x b : Int} (hb : 0 < b) : 0 ≤ Int.fmod x b ∧ Int.fmod x b < b := ⟨Int.fmod_nonneg_of_pos x hb, Int.fmod_lt_of_pos x hb⟩

/-! ## Numbers of digits -/
theorem num_go (q : Nat) : ∀ (l : List Nat) (z : Nat), l.foldl (fun z x => z * q + x) z = z * q ^ l.length + Sn84.number q l
  | [], z => by
    show z = z * q ^ 0 + 0
    rw [Nat.pow_zero, Nat.mul_one, Nat.add_zero]
  | x :: l, z => by
    have e : Sn84.number q (x :: l) = x * q ^ l.length + Sn84.number q l := by
      show l.foldl (fun z x => z * q + x) (0 * q + x) = _
      rw [num_go q l, Nat.zero_mul, Nat.zero_add]
    rw [List.foldl_cons, num_go q l, e, List.length_cons, Nat.pow_succ, Nat.add_mul, Nat.add_assoc, Nat.mul_assoc, Nat.mul_comm q]
theorem number_append (q : Nat) (l r : List Nat) : Sn84.number q (l ++ r) = Sn84.number q l * q ^ r.length + Sn84.number q r := by
  unfold Sn84.number
  rw [List.foldl_append, num_go q r]
  rfl
theorem number_snoc (q : Nat) (l : List Nat) (x : Nat) : Sn84.number q (l ++ [x]) = Sn84.number q l * q + x := by
  unfold Sn84.number
  rw [List.foldl_append]
  rfl
/-- digits as a number, over the whole numbers -/
@[irreducible] def num (q : Int) (l : List Int) : Int := ((Sn84.number q.toNat (l.map Int.toNat) : Nat) : Int)
theorem num_nil (q : Int) : num q [] = 0 := by
  unfold num
  rfl
theorem num_snoc {q : Int} {l : List Int} {x : Int} (hq : 0 ≤ q) (hx : 0 ≤ x) : num q (l ++ [x]) = num q l * q + x := by
  unfold num
  rw [List.map_append]
  show ((Sn84.number q.toNat (l.map Int.toNat ++ [x.toNat]) : Nat) : Int) = _
  rw [number_snoc, Int.natCast_add, Int.natCast_mul, Int.toNat_of_nonneg hq, Int.toNat_of_nonneg hx]
theorem num_nonneg (q : Int) (l : List Int) : 0 ≤ num q l := by
  unfold num
  exact Int.natCast_nonneg _
theorem num_lt {q : Nat} : ∀ (l : List Nat), (∀ x ∈ l, x < q) → Sn84.number q l < q ^ l.length
  | [], _ => by
    show 0 < q ^ 0
    rw [Nat.pow_zero]
    decide
  | x :: l, h => by
    have e : Sn84.number q (x :: l) = x * q ^ l.length + Sn84.number q l := by
      show l.foldl (fun z x => z * q + x) (0 * q + x) = _
      rw [num_go q l, Nat.zero_mul, Nat.zero_add]
    have i := num_lt l (fun y hy => h y (List.mem_cons_of_mem x hy))
    have hx := h x List.mem_cons_self
    have k : (x + 1) * q ^ l.length ≤ q * q ^ l.length := Nat.mul_le_mul_right _ hx
    rw [e, List.length_cons, Nat.pow_succ, Nat.mul_comm (q ^ l.length)]
    rw [Nat.add_mul, Nat.one_mul] at k
    omega
/-- the fold that a loop over the digits tells -/
theorem num_fold {q : Int} (hq : 0 ≤ q) : ∀ (l pre : List Int), (∀ x ∈ l, 0 ≤ x) → l.foldl (fun v x => v * q + x) (num q pre) = num q (pre ++ l)
  | [], pre, _ => by rw [List.append_nil]; rfl
  | x :: l, pre, h => by
    rw [List.foldl_cons, ← num_snoc hq (h x List.mem_cons_self), num_fold hq l _ (fun y hy => h y (List.mem_cons_of_mem x hy)), List.append_assoc]
    rfl

/-! ## What is due -/
theorem back_eq (q m n : Int) (l r : List Int) : PySn84.back q m n l r =
    if (Sn84.based q && (Sn84.told q (Sn84Neutral.nats l) m 0 && Sn84.told q (Sn84Neutral.nats r) n 1)) = false then [-2] else [0, ((Sn84.back q.toNat (Sn84Neutral.nats l) (Sn84Neutral.nats r)).1 : Int), ((Sn84.back q.toNat (Sn84Neutral.nats l) (Sn84Neutral.nats r)).2 : Int)] := rfl
theorem told_iff {q n : Int} {l : List Int} {least : Nat} (hl : ∀ x ∈ l, 0 ≤ x) : Sn84.told q (Sn84Neutral.nats l) n least = true ↔
    ((least : Int) ≤ n ∧ n ≤ 5) ∧ (l.length : Int) = n ∧ ∀ x ∈ l, x < q := by
  have e : (Sn84Neutral.nats l).length = l.length := List.length_map Int.toNat
  simp only [Sn84.told, Sn84.between, Bool.and_eq_true, decide_eq_true_eq, beq_iff_eq, List.all_eq_true, e]
  have h : (∀ x ∈ Sn84Neutral.nats l, ((x : Nat) : Int) < q) ↔ ∀ x ∈ l, x < q := by
    unfold Sn84Neutral.nats
    refine ⟨fun k x hx => ?_, fun k x hx => ?_⟩
    · have := k x.toNat (List.mem_map_of_mem hx)
      rwa [Int.toNat_of_nonneg (hl x hx)] at this
    · obtain ⟨y, hy, rfl⟩ := List.mem_map.mp hx
      rw [Int.toNat_of_nonneg (hl y hy)]
      exact k y hy
  rw [h]
  simp only [Sn84.SHORT]
  refine ⟨fun ⟨a, b, c⟩ => ⟨⟨a.1, by omega⟩, by omega, c⟩, fun ⟨a, b, c⟩ => ⟨⟨a.1, by omega⟩, by omega, c⟩⟩
/-- a refusal -/
theorem refused {q m n : Int} {l r : List Int} (hl : ∀ x ∈ l, 0 ≤ x) (hr : ∀ x ∈ r, 0 ≤ x)
    (h : ¬ (2 ≤ q ∧ q ≤ 36 ∧ 0 ≤ m ∧ m ≤ 5 ∧ 1 ≤ n ∧ n ≤ 5 ∧ (∀ x ∈ l, x < q) ∧ (∀ x ∈ r, x < q))) : PySn84.back q m n l r = [-2] := by
  rw [back_eq, if_pos]
  refine Bool.eq_false_iff.mpr fun t => h ?_
  simp only [Bool.and_eq_true] at t
  obtain ⟨tq, tl, tr⟩ := t
  have kl := (told_iff hl).mp tl
  have kr := (told_iff hr).mp tr
  simp only [Sn84.based, Sn84.between, Bool.and_eq_true, decide_eq_true_eq] at tq
  simp only [Sn84.BASE] at tq
  exact ⟨by omega, by omega, by omega, by omega, by omega, by omega, kl.2.2, kr.2.2⟩
/-- what is above and what is below, not yet in lowest terms -/
def above (q : Int) (l r : List Int) : Int := num q l * (q ^ r.length - 1) + num q r
def below (q : Int) (l r : List Int) : Int := q ^ l.length * (q ^ r.length - 1)
theorem pow_cast {q : Int} (hq : 0 ≤ q) (k : Nat) : ((q.toNat ^ k : Nat) : Int) = q ^ k := by
  rw [Int.natCast_pow, Int.toNat_of_nonneg hq]
theorem pow_pos {q : Int} (hq : 0 < q) (k : Nat) : 1 ≤ q ^ k := by
  have h := Nat.pow_pos (n := k) (show 0 < q.toNat by omega)
  have e := pow_cast (Int.le_of_lt hq) k
  omega
theorem above_nat {q : Int} {l r : List Int} (hq : 0 < q) : above q l r = ((Sn84.number q.toNat (Sn84Neutral.nats l ++ Sn84Neutral.nats r) - Sn84.number q.toNat (Sn84Neutral.nats l) : Nat) : Int) := by
  have p : 1 ≤ q.toNat ^ (Sn84Neutral.nats r).length := Nat.pow_pos (by omega)
  have e : (Sn84Neutral.nats r).length = r.length := List.length_map Int.toNat
  have m1 : Sn84.number q.toNat (Sn84Neutral.nats l) ≤ Sn84.number q.toNat (Sn84Neutral.nats l) * q.toNat ^ (Sn84Neutral.nats r).length := Nat.le_mul_of_pos_right _ p
  rw [number_append, Int.ofNat_sub (by omega), Int.natCast_add, Int.natCast_mul, e, pow_cast (Int.le_of_lt hq)]
  unfold above num
  rw [Int.mul_sub, Int.mul_one]
  show _ * _ - ((Sn84.number q.toNat (Sn84Neutral.nats l) : Nat) : Int) + ((Sn84.number q.toNat (Sn84Neutral.nats r) : Nat) : Int) = _
  show ((Sn84.number q.toNat (Sn84Neutral.nats l) : Nat) : Int) * _ - _ + _ = _
  omega
theorem below_nat {q : Int} {l r : List Int} (hq : 0 < q) : below q l r = ((q.toNat ^ (Sn84Neutral.nats l).length * (q.toNat ^ (Sn84Neutral.nats r).length - 1) : Nat) : Int) := by
  have p : 1 ≤ q.toNat ^ r.length := Nat.pow_pos (by omega)
  have e : (Sn84Neutral.nats r).length = r.length := List.length_map Int.toNat
  have f : (Sn84Neutral.nats l).length = l.length := List.length_map Int.toNat
  rw [e, f, Int.natCast_mul, Int.ofNat_sub p, pow_cast (Int.le_of_lt hq), pow_cast (Int.le_of_lt hq)]
  rfl
theorem above_nonneg {q : Int} {l r : List Int} (hq : 0 < q) : 0 ≤ above q l r := by
  rw [above_nat hq]
  exact Int.natCast_nonneg _
theorem below_pos {q : Int} {l r : List Int} (hq : 2 ≤ q) (hr : 1 ≤ r.length) : 1 ≤ below q l r := by
  have a := pow_pos (q := q) (by omega) l.length
  have b := pow_pos (q := q) (by omega) (r.length - 1)
  have e : q ^ r.length = q ^ (r.length - 1) * q := by
    rw [← Int.pow_succ]
    congr 1
    omega
  have c : q ^ (r.length - 1) * 2 ≤ q ^ (r.length - 1) * q := Int.mul_le_mul_of_nonneg_left hq (by omega)
  have d : 1 ≤ q ^ r.length - 1 := by omega
  have k : 1 * 1 ≤ q ^ l.length * (q ^ r.length - 1) := Int.mul_le_mul a d (by decide) (by omega)
  exact k
/-- what is due, of any two numbers that are these and their greatest divisor -/
theorem due {q m n x y g : Int} {l r : List Int} (hl : ∀ x ∈ l, 0 ≤ x) (hr : ∀ x ∈ r, 0 ≤ x) (q1 : 2 ≤ q) (q2 : q ≤ 36) (m1 : 0 ≤ m) (m2 : m ≤ 5) (n1 : 1 ≤ n) (n2 : n ≤ 5)
    (el : (l.length : Int) = m) (er : (r.length : Int) = n) (dl : ∀ x ∈ l, x < q) (dr : ∀ x ∈ r, x < q)
    (ex : x = above q l r) (ey : y = below q l r) (eg : g = ((Nat.gcd x.toNat y.toNat : Nat) : Int)) :
    PySn84.back q m n l r = [0, Int.fdiv x g, Int.fdiv y g] := by
  have hq : 0 < q := by omega
  have x0 : 0 ≤ x := by rw [ex]; exact above_nonneg hq
  have y0 : 1 ≤ y := by rw [ey]; exact below_pos q1 (by omega)
  have g0 : 0 < Nat.gcd x.toNat y.toNat := Nat.gcd_pos_of_pos_right _ (by omega)
  have X : x.toNat = Sn84.number q.toNat (Sn84Neutral.nats l ++ Sn84Neutral.nats r) - Sn84.number q.toNat (Sn84Neutral.nats l) := by
    rw [ex, above_nat hq, Int.toNat_natCast]
  have Y : y.toNat = q.toNat ^ (Sn84Neutral.nats l).length * (q.toNat ^ (Sn84Neutral.nats r).length - 1) := by
    rw [ey, below_nat hq, Int.toNat_natCast]
  have G : g.toNat = Nat.gcd x.toNat y.toNat := by rw [eg, Int.toNat_natCast]
  rw [back_eq, if_neg]
  · rw [toNat_fdiv x0 (by omega), toNat_fdiv (by omega) (by omega), G, X, Y]
    rfl
  · refine fun t => ?_
    have tl := (told_iff (q := q) (n := m) (least := 0) hl).mpr ⟨⟨m1, m2⟩, el, dl⟩
    have tr := (told_iff (q := q) (n := n) (least := 1) hr).mpr ⟨⟨n1, n2⟩, er, dr⟩
    have tq : Sn84.based q = true := by
      simp only [Sn84.based, Sn84.between, Bool.and_eq_true, decide_eq_true_eq]
      simp only [Sn84.BASE]
      omega
    rw [tl, tr, tq] at t
    cases t

/-! ## What is asked -/
theorem asked_len {q m n : Int} {l r : List Int} (h : PySn84.back_asked q m n l r = true) (m1 : 0 ≤ m) (m2 : m ≤ 5) (n1 : 1 ≤ n) (n2 : n ≤ 5) : (l.length : Int) = m ∧ (r.length : Int) = n := by
  have e : PySn84.back_asked q m n l r = (!([[[1, q, m, n], l, r]] : List (List (List Int))).isEmpty && (decide (([[[1, q, m, n], l, r]] : List (List (List Int))).length ≤ 200) && ([[[1, q, m, n], l, r]] : List (List (List Int))).all Sn84Neutral.asked1)) := rfl
  rw [e] at h
  simp only [Bool.and_eq_true, List.all_cons, List.all_nil, Bool.and_true] at h
  have h1 := h.2.2
  have e1 : Sn84Neutral.asked1 [[1, q, m, n], l, r] = (Sn84Neutral.whole32 q && (Sn84Neutral.whole32 m && (Sn84Neutral.whole32 n && (NeutralIO.bytes l && (NeutralIO.bytes r && (if (NeutralIO.within m 0 5 && NeutralIO.within n 1 5) = true then Sn84Neutral.long l m 0 5 && Sn84Neutral.long r n 1 5 else l.isEmpty && r.isEmpty)))))) := rfl
  rw [e1] at h1
  simp only [Bool.and_eq_true] at h1
  have h2 := h1.2.2.2.2.2
  have w : NeutralIO.within m 0 5 = true ∧ NeutralIO.within n 1 5 = true := by
    simp only [NeutralIO.within, Bool.and_eq_true, decide_eq_true_eq]
    omega
  rw [if_pos w] at h2
  simp only [Sn84Neutral.long, Bool.and_eq_true, decide_eq_true_eq] at h2
  rw [if_pos ⟨m1, m2⟩, if_pos ⟨n1, n2⟩] at h2
  exact h2

/-! ## The greatest divisor, step by step -/
/-- between two turns the two numbers have the divisor that the first two had -/
structure Gcd (x y great small : Int) : Prop where
  eq : Nat.gcd great.toNat small.toNat = Nat.gcd x.toNat y.toNat
def gcd (x y : Int) : Int := ((Nat.gcd x.toNat y.toNat : Nat) : Int)
theorem gcd_turn {x y g s : Int} (G : Gcd x y g s) (hs : 0 < s) (hg : 0 ≤ g) : Gcd x y s (Int.fmod g s) := by
  refine ⟨?_⟩
  rw [toNat_fmod hg hs, Int.toNat_natCast, ← G.eq, Nat.gcd_comm s.toNat, ← Nat.gcd_rec, Nat.gcd_comm]
theorem gcd_out {x y g s : Int} (G : Gcd x y g s) (h0 : 0 ≤ s) (hs : ¬ 0 < s) (hg : 0 ≤ g) : g = gcd x y := by
  have z : s = 0 := by omega
  have h := G.eq
  rw [z, Int.toNat_zero, Nat.gcd_zero_right] at h
  unfold gcd
  omega
theorem gcd_less {g s : Int} (hs : 0 < s) : (Int.fmod g s).toNat < s.toNat := by
  have := @fmod_in g s hs
  omega
/-! ## The helpers, as functions -/
/-- whole_number -/
@[irreducible] def wn (q : Int) (row : List Int) : Int := row.foldl (fun v x => v * q + x) 0
/-- whole_power -/
@[irreducible] def wp (q e : Int) : Int := q ^ e.toNat
/-- greatest_divisor -/
@[irreducible] def gd (x y : Int) : Int := ((Nat.gcd y.toNat (Int.fmod x y).toNat : Nat) : Int)
/-- are_digits -/
@[irreducible] def dg (q : Int) (row : List Int) : Bool := row.all (fun x => decide (x < q))
theorem wn_fold (q : Int) (row : List Int) : row.foldl (fun v x => v * q + x) 0 = wn q row := by
  unfold wn
  rfl
theorem wn_nil (q : Int) : wn q [] = 0 := by
  unfold wn
  rfl
theorem wn_snoc (q : Int) (row : List Int) (x : Int) : wn q (row ++ [x]) = wn q row * q + x := by
  unfold wn
  rw [List.foldl_append]
  rfl
theorem wn_num {q : Int} {row : List Int} (hq : 0 ≤ q) (h : ∀ x ∈ row, 0 ≤ x) : wn q row = num q row := by
  have e := num_fold hq row [] h
  rw [num_nil, List.nil_append] at e
  rw [← e, wn_fold]
theorem wp_zero (q : Int) : wp q 0 = 1 := by
  unfold wp
  exact Int.pow_zero q
theorem wp_succ {q e : Int} (he : 0 ≤ e) : wp q (e + 1) = wp q e * q := by
  unfold wp
  rw [show (e + 1).toNat = e.toNat + 1 by omega, Int.pow_succ]
theorem wp_fold {q : Int} : ∀ (l : List Int) (k : Nat), l.foldl (fun v _ => v * q) (q ^ k) = q ^ (k + l.length)
  | [], k => rfl
  | x :: l, k => by
    rw [List.foldl_cons, ← Int.pow_succ, wp_fold l, List.length_cons]
    congr 1
    omega
theorem wp_add {q m n : Int} (hm : 0 ≤ m) (hn : 0 ≤ n) : wp q (m + n) = wp q m * wp q n := by
  unfold wp
  rw [show (m + n).toNat = m.toNat + n.toNat by omega, Int.pow_add]
theorem wp_below {q m n : Int} {l r : List Int} (el : (l.length : Int) = m) (er : (r.length : Int) = n) : wp q (m + n) - wp q m = below q l r := by
  rw [wp_add (by omega) (by omega)]
  unfold wp below
  rw [show m.toNat = l.length by omega, show n.toNat = r.length by omega, Int.mul_sub, Int.mul_one]
theorem wn_above {q : Int} {l r : List Int} (hq : 0 < q) (hl : ∀ x ∈ l, 0 ≤ x) (hr : ∀ x ∈ r, 0 ≤ x) : wn q (l ++ r) - wn q l = above q l r := by
  have hlr : ∀ x ∈ l ++ r, 0 ≤ x := fun x hx => (List.mem_append.mp hx).elim (hl x) (hr x)
  rw [wn_num (Int.le_of_lt hq) hlr, wn_num (Int.le_of_lt hq) hl, above_nat hq]
  have e : Sn84.number q.toNat (Sn84Neutral.nats l) ≤ Sn84.number q.toNat (Sn84Neutral.nats l ++ Sn84Neutral.nats r) := by
    rw [number_append]
    have p : 1 ≤ q.toNat ^ (Sn84Neutral.nats r).length := Nat.pow_pos (by omega)
    have m1 : Sn84.number q.toNat (Sn84Neutral.nats l) ≤ Sn84.number q.toNat (Sn84Neutral.nats l) * q.toNat ^ (Sn84Neutral.nats r).length := Nat.le_mul_of_pos_right _ p
    omega
  rw [Int.ofNat_sub e]
  unfold num Sn84Neutral.nats
  rw [List.map_append]
theorem wp_pos {q : Int} (hq : 0 < q) (e : Int) : 1 ≤ wp q e := by
  unfold wp
  exact pow_pos hq _
theorem wp_one (q : Int) : wp q 1 = q := by
  unfold wp
  exact Int.pow_one q
theorem wp_less {q m n : Int} (hq : 2 ≤ q) (hm : 0 ≤ m) (hn : 1 ≤ n) : 1 ≤ wp q (m + n) - wp q m := by
  have e : wp q (m + n) = wp q m * wp q (n - 1) * q := by
    rw [show m + n = (m + (n - 1)) + 1 by omega, wp_succ (by omega), wp_add hm (by omega)]
  have a := wp_pos (q := q) (by omega) m
  have b := wp_pos (q := q) (by omega) (n - 1)
  have c : wp q m * 1 ≤ wp q m * wp q (n - 1) := Int.mul_le_mul_of_nonneg_left b (by omega)
  have d : (wp q m * wp q (n - 1)) * 2 ≤ (wp q m * wp q (n - 1)) * q := Int.mul_le_mul_of_nonneg_left hq (by omega)
  omega
theorem wp_most {q e : Int} (hq : 0 ≤ q) (hq2 : q ≤ 36) (he : 0 ≤ e) (he2 : e ≤ 10) : wp q e ≤ 3656158440062976 := by
  unfold wp
  rw [← pow_cast hq]
  have a : q.toNat ^ e.toNat ≤ 36 ^ e.toNat := Nat.pow_le_pow_left (by omega) _
  have b : 36 ^ e.toNat ≤ 36 ^ 10 := Nat.pow_le_pow_right (by decide) (by omega)
  have c : (36 : Nat) ^ 10 = 3656158440062976 := by decide
  omega
/-- between two turns of the divisor's loop -/
structure Div (x y d rest : Int) : Prop where
  eq : Nat.gcd d.toNat rest.toNat = Nat.gcd y.toNat (Int.fmod x y).toNat
theorem div_start {x y : Int} (hy : 0 < y) : 0 ≤ Int.fmod x y ∧ 1 ≤ y ∧ Div x y y (Int.fmod x y) := ⟨(fmod_in hy).1, hy, ⟨rfl⟩⟩
theorem div_turn {x y d r : Int} (D : Div x y d r) (hr : 0 < r) (hd : 1 ≤ d) : 0 ≤ Int.fmod d r ∧ 1 ≤ r ∧ Div x y r (Int.fmod d r) := by
  refine ⟨(fmod_in hr).1, hr, ⟨?_⟩⟩
  rw [toNat_fmod (by omega) hr, Int.toNat_natCast, ← D.eq, Nat.gcd_comm r.toNat, ← Nat.gcd_rec, Nat.gcd_comm]
theorem div_out {x y d r : Int} (D : Div x y d r) (h0 : 0 ≤ r) (hr : ¬ 0 < r) (hd : 1 ≤ d) : d = gd x y := by
  have z : r = 0 := by omega
  have h := D.eq
  rw [z, Int.toNat_zero, Nat.gcd_zero_right] at h
  unfold gd
  omega
theorem gd_pos {x y : Int} (hy : 1 ≤ y) : 1 ≤ gd x y := by
  unfold gd
  have := Nat.gcd_pos_of_pos_left (Int.fmod x y).toNat (show 0 < y.toNat by omega)
  omega
theorem gd_most {x y : Int} (hy : 1 ≤ y) : gd x y ≤ y := by
  unfold gd
  have := Nat.le_of_dvd (show 0 < y.toNat by omega) (Nat.gcd_dvd_left y.toNat (Int.fmod x y).toNat)
  omega
theorem gd_gcd {x y : Int} (hx : 0 ≤ x) (hy : 1 ≤ y) : gd x y = ((Nat.gcd x.toNat y.toNat : Nat) : Int) := by
  unfold gd
  rw [toNat_fmod hx (by omega), Int.toNat_natCast, Nat.gcd_comm, ← Nat.gcd_rec, Nat.gcd_comm]
theorem dg_all {q : Int} {row : List Int} : dg q row = true ↔ ∀ x ∈ row, x < q := by
  unfold dg
  simp only [List.all_eq_true, decide_eq_true_eq]
/-- what is due, in the helpers' words -/
theorem finish {q m n : Int} {l r : List Int} (hl : ∀ x ∈ l, 0 ≤ x) (hr : ∀ x ∈ r, 0 ≤ x) (q1 : 2 ≤ q) (q2 : q ≤ 36) (m1 : 0 ≤ m) (m2 : m ≤ 5) (n1 : 1 ≤ n) (n2 : n ≤ 5)
    (asked : PySn84.back_asked q m n l r = true) (dl : dg q l = true) (dr : dg q r = true) :
    PySn84.back q m n l r = [0, Int.fdiv (wn q (l ++ r) - wn q l) (gd (wn q (l ++ r) - wn q l) (wp q (m + n) - wp q m)), Int.fdiv (wp q (m + n) - wp q m) (gd (wn q (l ++ r) - wn q l) (wp q (m + n) - wp q m))] := by
  obtain ⟨el, er⟩ := asked_len asked m1 m2 n1 n2
  have y1 := wp_less (q := q) (m := m) (n := n) q1 m1 n1
  have ex := wn_above (q := q) (by omega) hl hr
  have x0 : 0 ≤ wn q (l ++ r) - wn q l := by
    rw [ex]
    exact above_nonneg (by omega)
  exact due hl hr q1 q2 m1 m2 n1 n2 el er (dg_all.mp dl) (dg_all.mp dr) ex (wp_below el er) (gd_gcd x0 y1)
theorem refuse {q m n : Int} {l r : List Int} (hl : ∀ x ∈ l, 0 ≤ x) (hr : ∀ x ∈ r, 0 ≤ x)
    (h : 2 ≤ q → q ≤ 36 → 0 ≤ m → m ≤ 5 → 1 ≤ n → n ≤ 5 → dg q l = true → dg q r = true → False) : PySn84.back q m n l r = [-2] :=
  refused hl hr fun ⟨a, b, c, d, e, f, g, k⟩ => h a b c d e f (dg_all.mpr g) (dg_all.mpr k)
end Bk
namespace My
section
open PySem PySem.Calls PyProof.Rows
variable {prog : Program} {w : World} {A : Around} {E : Value → Shared → Prop} {s : Shared} {x y a q m n : Int} {t u : Tok} {Q : Value → Shared → Prop}
theorem step_mulR (lo : 2 ≤ y) (hi : y ≤ 36) (h : Q (.int (x * y) s.toks) { s with toks := s.toks + 1 }) :
    wpAny (model prog w) A (binaryOp .Mult (.int x t) (.int y u)) Q E s :=
  PyProof.Rows.mul_int h (PySem.IntMulOk.of_right (PySem.intBits_le_64 (by omega) (by omega)))
theorem step_div (hy : 1 ≤ y) (hi : y ≤ 3656158440062976) (h : Q (.int (Int.fdiv a (Bk.gd x y)) s.toks) { s with toks := s.toks + 1 }) :
    wpAny (model prog w) A (binaryOp .FloorDiv (.int a t) (.int (Bk.gd x y) u)) Q E s :=
  PyProof.Rows.floordiv_int (by have := @Bk.gd_pos x y hy; omega) h (Or.inl (PyProof.noPylong_of_log2 (by
    have g1 := @Bk.gd_pos x y hy
    have g2 := @Bk.gd_most x y hy
    have k : (Bk.gd x y).natAbs < 2 ^ 52 := by
      have c : (2 : Nat) ^ 52 = 4503599627370496 := by decide
      omega
    have := (Nat.log2_lt (by omega)).mpr k
    omega)))
theorem step_mod (lo : 0 < y) (h : Q (.int (Int.fmod x y) s.toks) { s with toks := s.toks + 1 }) :
    wpAny (model prog w) A (binaryOp .Mod (.int x t) (.int y u)) Q E s :=
  PyProof.Rows.mod_int (by omega) h
theorem step_sub (hq : 2 ≤ q) (hq2 : q ≤ 36) (hm : 0 ≤ m) (hm2 : m ≤ 5) (hn : 1 ≤ n) (hn2 : n ≤ 5)
    (h : 1 ≤ Bk.wp q (m + n) - Bk.wp q m → Bk.wp q (m + n) - Bk.wp q m ≤ 3656158440062976 → Q (.int (Bk.wp q (m + n) - Bk.wp q m) s.toks) { s with toks := s.toks + 1 }) :
    wpAny (model prog w) A (binaryOp .Sub (.int (Bk.wp q (m + n)) t) (.int (Bk.wp q m) u)) Q E s :=
  PyProof.Rows.sub_int (h (Bk.wp_less hq hm hn) (by
    have a := @Bk.wp_most q (m + n) (by omega) hq2 (by omega) (by omega)
    have b := @Bk.wp_pos q (by omega) m
    omega))
end
theorem said : PySem.Challenge.rw_pointdigits_s02_back.wellSaid = true := by decide +kernel
end My
local macro_rules | `(tactic| walk_at "binaryOp FloorDiv int int") => `(tactic| (k_here; (with_reducible refine' My.step_div ?k1 ?k2 ?_); (case k1 => k_dflt omega); (case k2 => k_dflt omega)))
local macro_rules | `(tactic| walk_at "binaryOp Mod int int") => `(tactic| (k_here; (with_reducible refine' My.step_mod ?k1 ?_); (case k1 => k_dflt omega)))
local macro_rules | `(tactic| walk_at "binaryOp Mult int int") => `(tactic| (k_here; (with_reducible refine' My.step_mulR ?k1 ?k2 ?_); (case k1 => k_dflt omega); (case k2 => k_dflt omega)))
local macro_rules | `(tactic| walk_at "binaryOp Sub int int") => `(tactic| (k_here; (with_reducible refine' My.step_sub ?k1 ?k2 ?k3 ?k4 ?k5 ?k6 ?_); (case k1 => k_dflt omega); (case k2 => k_dflt omega); (case k3 => k_dflt omega); (case k4 => k_dflt omega); (case k5 => k_dflt omega); (case k6 => k_dflt omega); intro kS1 kS2))
namespace My
section
open PySem PySem.Calls PyProof.Rows
/-- an element of the comprehension: a truth value, and nothing else is made -/
def BoolEl (led : List (Addr × Obj)) (b : Bool) (v : Value) (led' : List (Addr × Obj)) : Prop := led' = led ∧ v = .bool b
def BoolDone (P : Prop) : Prop := P
theorem bool_el {led : List (Addr × Obj)} {b c : Bool} (e : b = c) : BoolEl led b (.bool c) led := ⟨rfl, by rw [e]⟩
variable {prog : Program} {w : World} {A : Around} {base : Heap} {L : Addr} {m : Str → Option Value} {env : Env} {elt : Expr} {x : Str} {scope : Scope} {cl : List (Str × Addr)} {s : Shared}
  {S : List (Addr × Obj) → Prop} {Fin : List Value → List (Addr × Obj) → Prop} {led : List (Addr × Obj)} {vs : List Value} {ns : List Int}
theorem bools_go (g : Int → Bool) (hi : IntsAre vs ns)
    (turn : ∀ k t I oI C oC D m₂ ys h tk (E' : Value → Shared → Prop), k ∈ ns → LCg.NsObj oC m₂ → m₂ x = some (.int k t) → Fr base L h m → News base L h ((I, oI) :: (C, oC) :: (D, LCg.lst ys) :: led) → LCg.Off3 I C D led → ((@Ne Nat I C) ∧ (@Ne Nat I D) ∧ (@Ne Nat C D)) →
      wpAny (model prog w) A (eval elt (compEnvC scope cl C env)) (LCg.CompEnd base L m { s with heap := h, toks := tk } I oI C oC D (LCg.lst ys) S (fun v led' => BoolEl led (g k) v led')) E' { s with heap := h, toks := tk })
    (fin : BoolDone (∀ ys, CarriedAll ys (ns.map fun a => PyData.bool (g a)) → Fin ys led)) :
    LCg.CompRest prog w A base L m env elt x scope cl s S (fun i v => vs.toArray[i]? = some v) Fin vs.toArray.size 0 [] led := by
  have go : ∀ (j i : Nat) (ys : List Value), i + j = ns.length → CarriedAll ys ((ns.take i).map fun a => PyData.bool (g a)) →
      LCg.CompRest prog w A base L m env elt x scope cl s S (fun i v => vs.toArray[i]? = some v) Fin j i ys led := by
    intro j
    induction j with
    | zero =>
      intro i ys hij hy
      rw [show i = ns.length by omega, List.take_length] at hy
      exact LCg.CompRest.zero ((show ∀ ys, CarriedAll ys (ns.map fun a => PyData.bool (g a)) → Fin ys led from fin) ys hy)
    | succ j ih =>
      intro i ys hij hy
      apply LCg.CompRest.succ
      intro v I oI C oC D m₂ h tk E' hv hC hx F N off ne
      obtain ⟨k, t, ev, hk⟩ := IntsAre.at hi i v (by simpa using hv)
      rw [ev] at hx
      refine wpAny_mono (turn k t I oI C oC D m₂ ys h tk E' (List.mem_of_getElem? hk) hC hx F N off ne) ?_ (fun _ _ z => z)
      intro y s' hq
      obtain ⟨h', tk', nw, es, F', N', off', hS, hn, hb⟩ := hq
      subst hn hb
      refine ⟨h', tk', nw, es, F', N', off', hS, ih (i + 1) _ (by omega) ?_⟩
      rw [List.take_add_one, hk]
      simpa using CarriedAll.snoc hy (Carried.bool (g k))
  have start := go ns.length 0 [] (by omega) (by simpa using CarriedAll.nil)
  have el : vs.toArray.size = ns.length := by
    rw [List.size_toArray]
    exact hi.length
  rw [el]
  exact start
end
end My
local macro_rules | `(tactic| walk_at "CompSrc") => `(tactic| (k_here; k_dflt (refine LCg.CompSrc.base (by rfl) (by k_asm) (by k_asm) (by assumption) (by size_fits) ?_; intro g'; (refine' My.bools_go _ (by assumption) (fun k' t' I' oI' C' oC' D' m' ys' h' tk' E' hk' hC' hx' F' N' off' ne' => ?_) ?_); (all_goals (try (simp only [LCg.Off3, and_true] at off'))); kcf_last)))
local macro_rules | `(tactic| walk_at "BoolEl") => `(tactic| (refine My.bool_el ?_; rfl))
local macro_rules | `(tactic| walk_at "BoolDone") => `(tactic| (unfold My.BoolDone; intro ys' hB'))
namespace My
theorem wn_pair (q : Int) (row : List Int) : (List.foldl (fun (σ : Int × Unit) (n : Int) => (σ.fst * q + n, ())) (0, ()) row).fst = Bk.wn q row := by
  rw [← Bk.wn_fold]
  have go : ∀ (l : List Int) (z : Int), (List.foldl (fun (σ : Int × Unit) (n : Int) => (σ.fst * q + n, ())) (z, ()) l).fst = l.foldl (fun v x => v * q + x) z := by
    intro l
    induction l with
    | nil => intro z; rfl
    | cons x l ih => intro z; exact ih (z * q + x)
  exact go row 0
theorem wn_cat (q : Int) (row : List Int) : List.foldl (fun (v : Int) => HAdd.hAdd (v * q)) 0 row = Bk.wn q row := Bk.wn_fold q row
theorem wp_pair {q e : Int} (he : 0 ≤ e) : (List.foldl (fun (σ : Int × Unit) (_ : Int) => (σ.fst * q, ())) (1, ()) (PyProof.Rows.rangeInts 0 1 (e - 0).toNat)).fst = Bk.wp q e := by
  have go : ∀ (l : List Int) (z : Int), (List.foldl (fun (σ : Int × Unit) (_ : Int) => (σ.fst * q, ())) (z, ()) l).fst = l.foldl (fun v _ => v * q) z := by
    intro l
    induction l with
    | nil => intro z; rfl
    | cons x l ih => intro z; exact ih (z * q)
  rw [go]
  have k := Bk.wp_fold (q := q) (PyProof.Rows.rangeInts 0 1 (e - 0).toNat) 0
  rw [Int.pow_zero] at k
  rw [k]
  unfold Bk.wp
  congr 1
  simp [PyProof.Rows.rangeInts]
theorem ends {a b c d y : Int} (h1 : a = c) (h2 : b = d) : [0, (a - b).fdiv (Bk.gd (a - b) y), y.fdiv (Bk.gd (a - b) y)] = [0, (c - d).fdiv (Bk.gd (c - d) y), y.fdiv (Bk.gd (c - d) y)] := by
  rw [h1, h2]
theorem dg_of {q : Int} {row : List Int} (h : (row.all fun a => decide (a < q)) = true) : Bk.dg q row = true := by
  unfold Bk.dg
  exact h
theorem dg_no {q : Int} {row : List Int} (h : (row.all fun a => decide (a < q)) = false) (k : Bk.dg q row = true) : False := by
  unfold Bk.dg at k
  rw [h] at k
  cases k
theorem items_low {most : Nat} {hi : Int} {l : List Int} (h : Codec.inList 0 most (Codec.inInt 0 hi) l = true) : ∀ x ∈ l, (0 : Int) ≤ x := by
  intro x hx
  have a := (Bool.and_eq_true_iff.mp h).2
  have b := List.all_eq_true.mp a x hx
  exact of_decide_eq_true (Bool.and_eq_true_iff.mp b).1
end My
set_option maxRecDepth 100000 in
set_option maxHeartbeats 8000000 in
theorem PySem.Challenge.cw_pointdigits_s02_back_holds : PySem.Challenge.rw_pointdigits_s02_back.Holds := by
  k_with "call ref" => k_call_by "greatest_divisor" Bk.gd (fun (_ y : Int) => 1 ≤ y)
  k_with "call ref" => k_call_by "whole_power" Bk.wp (fun (q e : Int) => 2 ≤ q ∧ q ≤ 36 ∧ 0 ≤ e ∧ e ≤ 10)
  k_with "tree" => first
    | exact Bk.div_out (by assumption) (by omega) (by omega) (by omega)
    | exact My.wp_pair (by omega)
  k_with "state" => first
    | with_reducible exact Bk.div_start (by omega)
    | with_reducible exact Bk.div_turn (by assumption) (by omega) (by omega)
  k_with "measure" => exact Bk.gcd_less (by omega)
  k_with "exec While Compare cons nil" => k_while_given ["above", "below"] (fun x y _ d r => 0 ≤ r ∧ 1 ≤ d ∧ Bk.Div x y d r) (fun _ _ _ _ r => r.toNat) "divisor" "rest"
  open_ks with [.int 10, .int 0, .int 1, .list [], .list [.int 3]]
  all_goals
    os_open My.said with v w k e
    obtain ⟨x1, x2, x3, x4, x5, u⟩ := v
    have e1 := os_j_int (List.cons.inj e).1
    have e2 := os_j_int (List.cons.inj (List.cons.inj e).2).1
    have e3 := os_j_int (List.cons.inj (List.cons.inj (List.cons.inj e).2).2).1
    have e4 := os_j_ints (List.cons.inj (List.cons.inj (List.cons.inj (List.cons.inj e).2).2).2).1
    have e5 := os_j_ints (List.cons.inj (List.cons.inj (List.cons.inj (List.cons.inj (List.cons.inj e).2).2).2).2).1
    have b4 := My.items_low (l := x4) (most := 5) (hi := 255) (Bool.and_eq_true_iff.mp (Bool.and_eq_true_iff.mp (Bool.and_eq_true_iff.mp (Bool.and_eq_true_iff.mp w).2).2).2).1
    have b5 := My.items_low (l := x5) (most := 5) (hi := 255) (Bool.and_eq_true_iff.mp (Bool.and_eq_true_iff.mp (Bool.and_eq_true_iff.mp (Bool.and_eq_true_iff.mp (Bool.and_eq_true_iff.mp w).2).2).2).2).1
    have hask : PySn84.back_asked x1 x2 x3 x4 x5 = true := k
    subst e1 e2 e3 e4 e5
    clear e k w
  · show ofPy (PyData.list [PyData.int 0, PyData.int _, PyData.int _]) = WData.list ((PySn84.back _ _ _ _ _).map WData.int)
    refine (os_list (ys := [0, _, _]) rfl).trans (congrArg (fun z => WData.list (List.map WData.int z)) ?_)
    rw [Bk.finish b4 b5 (by omega) (by omega) (by omega) (by omega) (by omega) (by omega) hask (My.dg_of (by assumption)) (My.dg_of (by assumption))]
    exact My.ends (My.wn_cat _ _) (My.wn_pair _ _)
  all_goals
    show ofPy (PyData.list [PyData.int (-2)]) = WData.list ((PySn84.back _ _ _ _ _).map WData.int)
    refine (os_list (ys := [-2]) rfl).trans (congrArg (fun z => WData.list (List.map WData.int z)) (Bk.refuse b4 b5 ?_).symm)
    dsimp only
    intro h1 h2 h3 h4 h5 h6 h7 h8
    first
      | omega
      | exact My.dg_no (by assumption) h7
      | exact My.dg_no (by assumption) h8
#print axioms PySem.Challenge.cw_pointdigits_s02_back_holds
