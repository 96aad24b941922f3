import PyProof.Rows.All
import KE.OsGo
import KE.OsArgs
import PySem.Challenge.RW_waiting_s03_wl_need
open PySem PySem.W
set_option Elab.async false
set_option maxHeartbeats 4000000
namespace My
section
open Ql80

/-- rounding of a fraction that need not be in lowest terms -/
def half (n d : Int) : Int :=
  if 2 * (n % d) < d ∨ (2 * (n % d) = d ∧ (n / d) % 2 = 0) then n / d else n / d + 1

theorem rounded_div (n d : Int) (hd : 0 < d) : rounded ((n : Rat) / (d : Rat)) = half n d := by
  have e : ∃ g : Int, 0 < g ∧ n = ((n : Rat) / (d : Rat)).num * g ∧ d = (((n : Rat) / (d : Rat)).den : Int) * g := by
    have e1 : (n : Rat) / (d : Rat) = mkRat n d.toNat := by
      rw [← Rat.divInt_eq_div]
      have : (d.toNat : Int) = d := by omega
      rw [← Rat.divInt_ofNat, this]
    rw [e1]
    obtain ⟨m, h0, h1, h2⟩ := Rat.mkRat_num_den (d := d.toNat) (n := n) (n' := (mkRat n d.toNat).num) (d' := (mkRat n d.toNat).den) (z' := (mkRat n d.toNat).den_nz) (c := (mkRat n d.toNat).reduced) (by omega) rfl
    refine ⟨m, by omega, h1, ?_⟩
    have h3 : (d.toNat : Int) = ((mkRat n d.toNat).den * m : Nat) := by rw [← h2]
    rw [Int.natCast_mul] at h3
    omega
  obtain ⟨g, hg, en, ed⟩ := e
  unfold rounded half
  generalize ((n : Rat) / (d : Rat)).num = x at *
  generalize (((n : Rat) / (d : Rat)).den : Int) = y at *
  subst en ed
  have e1 : x * g % (y * g) = (x % y) * g := by
    rw [Int.mul_comm x g, Int.mul_comm y g, Int.mul_emod_mul_of_pos _ _ hg, Int.mul_comm]
  rw [Int.mul_ediv_mul_of_pos_left _ _ hg, e1, ← Int.mul_assoc]
  generalize 2 * (x % y) = m
  have l : m < y ↔ m * g < y * g := (Int.mul_lt_mul_right hg).symm
  have q : m = y ↔ m * g = y * g := ⟨fun h => by rw [h], fun h => Int.eq_of_mul_eq_mul_right (by omega) h⟩
  simp only [l, q]


/-- the part lost over whole numbers: top and bottom -/
def top (a : Int) : Nat → Int
  | 0 => 1
  | k + 1 => top a k * a
def bot (a : Int) : Nat → Int
  | 0 => 1
  | k + 1 => bot a k * 1000000 * ((k : Int) + 1) + top a (k + 1)
def den : Nat → Int
  | 0 => 1
  | k + 1 => den k * 1000000 * ((k : Int) + 1)

theorem den_pos : ∀ k, 0 < den k
  | 0 => by decide
  | k + 1 => by
    have := den_pos k
    simp only [den]
    exact Int.mul_pos (Int.mul_pos this (by decide)) (by omega)
theorem top_nonneg {a : Int} (h : 0 ≤ a) : ∀ k, 0 ≤ top a k
  | 0 => by simp [top]
  | k + 1 => Int.mul_nonneg (top_nonneg h k) h
theorem bot_pos {a : Int} (h : 0 ≤ a) : ∀ k, 0 < bot a k
  | 0 => by simp [bot]
  | k + 1 => by
    have h1 := bot_pos h k
    have h2 := top_nonneg h (k + 1)
    have h3 : 0 < bot a k * 1000000 * ((k : Int) + 1) := Int.mul_pos (Int.mul_pos h1 (by decide)) (by omega)
    simp only [bot]
    omega
theorem top_le_bot {a : Int} (h : 0 ≤ a) : ∀ k, top a k ≤ bot a k
  | 0 => by simp [bot, top]
  | k + 1 => by
    have h1 := bot_pos h k
    have h3 : 0 < bot a k * 1000000 * ((k : Int) + 1) := Int.mul_pos (Int.mul_pos h1 (by decide)) (by omega)
    simp only [bot]
    omega

theorem sum_append (l m : List Rat) : Ql80.sum (l ++ m) = Ql80.sum l + Ql80.sum m := by
  induction l with
  | nil => simp [Ql80.sum, Rat.zero_add]
  | cons x l ih =>
    simp only [Ql80.sum, List.cons_append, List.foldr_cons] at ih ⊢
    rw [ih, Rat.add_assoc]
theorem sum_one (x : Rat) : Ql80.sum [x] = x := by simp [Ql80.sum, Rat.add_zero]

theorem ratPos {z : Int} (h : 0 < z) : (z : Rat) ≠ 0 := by
  intro e
  have : z = 0 := by exact_mod_cast e
  omega

theorem natPos {n : Nat} (h : 0 < n) : (n : Rat) ≠ 0 := by
  intro e
  have : n = 0 := by exact_mod_cast e
  omega

theorem term_eq (a : Nat) : ∀ k, Ql80.term (millionths a) k = (top a k : Rat) / (den k : Rat)
  | 0 => by simp [Ql80.term, top, den]; grind
  | k + 1 => by
    have h := term_eq a k
    have h1 := ratPos (den_pos k)
    have h2 := natPos (n := k + 1) (by omega)
    rw [Ql80.term, h]
    simp only [top, den, millionths]
    simp only [Rat.intCast_mul, Rat.intCast_add, Rat.intCast_natCast, Rat.natCast_add] at *
    grind
theorem sum_eq (a : Nat) : ∀ k, Ql80.sum ((List.range (k + 1)).map (Ql80.term (millionths a))) = (bot a k : Rat) / (den k : Rat)
  | 0 => by simp [Ql80.term, bot, den, Ql80.sum]; grind
  | k + 1 => by
    have h := sum_eq a k
    have h1 := ratPos (den_pos k)
    have h2 := natPos (n := k + 1) (by omega)
    rw [List.range_succ, List.map_append, sum_append, h, List.map_singleton, sum_one, term_eq]
    simp only [bot, den]
    simp only [Rat.intCast_mul, Rat.intCast_add, Rat.intCast_natCast, Rat.natCast_add] at *
    grind
theorem lost_eq (a c : Nat) : Ql80.lost (millionths a) c = (top a c : Rat) / (bot a c : Rat) := by
  have h1 := ratPos (den_pos c)
  have h2 := ratPos (bot_pos (a := (a : Int)) (by omega) c)
  unfold Ql80.lost
  rw [term_eq, sum_eq]
  grind
theorem lost_in (a c : Nat) : inBillionths (Ql80.lost (millionths a) c) = half (top a c * 1000000000) (bot a c) := by
  unfold inBillionths
  rw [lost_eq, ← rounded_div _ _ (bot_pos (by omega) c)]
  congr 1
  simp only [BILLION, Rat.intCast_mul]
  grind
/-- what waits, over whole numbers -/
theorem waits_in (a c : Nat) (h : a < 1000000 * c) : inBillionths (Ql80.waits (millionths a) c) =
    half (1000000 * (c : Int) * top a c * 1000000000) (1000000 * (c : Int) * bot a c - (a : Int) * (bot a c - top a c)) := by
  have hT := top_nonneg (a := (a : Int)) (by omega) c
  have hB := bot_pos (a := (a : Int)) (by omega) c
  have hd : 0 < 1000000 * (c : Int) * bot a c - (a : Int) * (bot a c - top a c) := by
    have e1 : (a : Int) * bot a c < 1000000 * (c : Int) * bot a c := (Int.mul_lt_mul_right hB).mpr (by omega)
    have e2 : 0 ≤ (a : Int) * top a c := Int.mul_nonneg (by omega) hT
    rw [Int.mul_sub]
    omega
  unfold inBillionths
  rw [← rounded_div _ _ hd]
  congr 1
  unfold Ql80.waits
  rw [lost_eq]
  have h1 := ratPos hB
  have h2 := ratPos hd
  simp only [BILLION, millionths, Rat.intCast_mul, Rat.intCast_sub, Rat.intCast_natCast] at *
  generalize ((top (a : Int) c : Int) : Rat) = T at *
  generalize ((bot (a : Int) c : Int) : Rat) = B at *
  have h3 : (c : Rat) - (a : Rat) / 1000000 * (1 - T / B) ≠ 0 := by
    intro e
    apply h2
    have : (1000000 * (c : Rat) * B - a * (B - T)) = ((c : Rat) - (a : Rat) / 1000000 * (1 - T / B)) * 1000000 * B := by
      grind
    simp only [Rat.intCast_ofNat]
    rw [this, e]
    grind
  simp only [Rat.intCast_ofNat] at *
  have e4 : (1000000 * (c : Rat) * B - a * (B - T)) = ((c : Rat) - (a : Rat) / 1000000 * (1 - T / B)) * (1000000 * B) := by
    grind
  rw [e4]
  grind

/-! how large they are -/
theorem top_le {a : Int} (h0 : 0 ≤ a) (h1 : a ≤ 1000000000) : ∀ k, top a k ≤ 2147483648 ^ k
  | 0 => by simp [top]
  | k + 1 => by
    have ih := top_le h0 h1 k
    have hn := top_nonneg h0 k
    have hp : (0 : Int) ≤ 2147483648 ^ k := Int.pow_nonneg (by decide)
    rw [Int.pow_succ]
    show top a k * a ≤ _
    exact Int.mul_le_mul ih (by omega) h0 hp
theorem bot_le {a : Int} (h0 : 0 ≤ a) (h1 : a ≤ 1000000000) : ∀ k, k ≤ 400 → bot a k ≤ 2147483648 ^ k
  | 0, _ => by simp [bot]
  | k + 1, hk => by
    have ih := bot_le h0 h1 k (by omega)
    have tk := top_le h0 h1 k
    have tn := top_nonneg h0 k
    have hn := bot_pos h0 k
    have e1 : bot a k * 1000000 * ((k : Int) + 1) ≤ 2147483648 ^ k * 400000000 := by
      rw [Int.mul_assoc]
      exact Int.mul_le_mul ih (by omega) (by omega) (by omega)
    have e2 : top a k * a ≤ 2147483648 ^ k * 1000000000 := Int.mul_le_mul tk h1 h0 (by omega)
    have e3 : (2147483648 : Int) ^ (k + 1) = 2147483648 ^ k * 2147483648 := Int.pow_succ ..
    show bot a k * 1000000 * ((k : Int) + 1) + top a k * a ≤ _
    omega
theorem pow_log {y : Int} {k n : Nat} (h0 : 0 < y) (h : y ≤ 2147483648 ^ k) (hk : 31 * k < n) : y.natAbs.log2 < n := by
  refine (Nat.log2_lt (by omega)).mpr ?_
  have e : (2147483648 : Int) ^ k = ((2 ^ (31 * k) : Nat) : Int) := by
    rw [Nat.pow_mul]
    simp
  have l : (2 : Nat) ^ (31 * k) < 2 ^ n := Nat.pow_lt_pow_right (by decide) hk
  rw [e] at h
  omega
theorem bot_log {a : Int} (h0 : 0 ≤ a) (h1 : a ≤ 1000000000) {k : Nat} (hk : k ≤ 256) : (bot a k).natAbs.log2 < 9000 :=
  pow_log (bot_pos h0 k) (bot_le h0 h1 k (by omega)) (by omega)

/-! what is needed -/
theorem need_iff (a p c : Nat) : Ql80.lost (millionths a) c * (BILLION : Rat) ≤ (p : Rat) ↔ top a c * 1000000000 ≤ (p : Int) * bot a c := by
  have hB := bot_pos (a := (a : Int)) (by omega) c
  have h1 := ratPos hB
  have hB' : (0 : Rat) < ((bot (a : Int) c : Int) : Rat) := by exact_mod_cast hB
  rw [lost_eq]
  have e : (top (a : Int) c : Rat) / (bot (a : Int) c : Rat) * (BILLION : Rat) = ((top (a : Int) c * 1000000000 : Int) : Rat) / ((bot (a : Int) c : Int) : Rat) := by
    simp only [BILLION, Rat.intCast_mul]
    grind
  have di : ∀ x y z : Rat, 0 < y → (x / y ≤ z ↔ x ≤ z * y) := by
    intro x y z hy
    have e2 : x / y * y = x := by grind
    constructor
    · intro h
      have := Rat.mul_le_mul_of_nonneg_right h (Rat.le_of_lt hy)
      rwa [e2] at this
    · intro h
      refine Rat.le_of_mul_le_mul_right ?_ hy
      rwa [e2]
  rw [e, di _ _ _ hB']
  have : (p : Rat) * ((bot (a : Int) c : Int) : Rat) = (((p : Int) * bot (a : Int) c : Int) : Rat) := by
    simp only [Rat.intCast_mul, Rat.intCast_natCast]
  rw [this, Rat.intCast_le_intCast]
end
theorem first_some {f : Nat → Bool} : ∀ (n k m : Nat), k ≤ m → m < k + n → f m = true → (∀ j, k ≤ j → j < m → f j = false) → Ql80Neutral.firstFrom f n k = some m
  | 0, k, m, h1, h2, _, _ => by omega
  | n + 1, k, m, h1, h2, hm, hj => by
    unfold Ql80Neutral.firstFrom
    by_cases e : k = m
    · subst e
      rw [if_pos hm]
    · rw [if_neg (by rw [hj k (by omega) (by omega)]; decide)]
      exact first_some n (k + 1) m (by omega) (by omega) hm (fun j a b => hj j (by omega) b)
theorem first_of {f : Nat → Bool} : ∀ (n k m : Nat), Ql80Neutral.firstFrom f n k = some m → k ≤ m ∧ m < k + n ∧ f m = true ∧ ∀ j, k ≤ j → j < m → f j = false
  | 0, k, m, h => by simp [Ql80Neutral.firstFrom] at h
  | n + 1, k, m, h => by
    unfold Ql80Neutral.firstFrom at h
    by_cases e : f k = true
    · rw [if_pos e] at h
      cases h
      exact ⟨by omega, by omega, e, fun j a b => by omega⟩
    · rw [if_neg e] at h
      obtain ⟨h1, h2, h3, h4⟩ := first_of n (k + 1) m h
      refine ⟨by omega, by omega, h3, fun j a b => ?_⟩
      by_cases ej : j = k
      · subst ej
        simpa using e
      · exact h4 j (by omega) b

theorem said : PySem.Challenge.rw_waiting_s03_wl_need.wellSaid = true := by decide +kernel
theorem told_far {a p : Int} (h1 : 0 ≤ a) (h2 : 0 ≤ p) (h : 1000000000 < a ∨ p < 1 ∨ 1000000000 < p) : PyQl80.wl_need a p = [-2] := by
  have e : Ql80.LOAD < a.toNat ∨ Ql80.BILLION < p.toNat ∨ p.toNat = 0 := by
    simp only [Ql80.LOAD, Ql80.BILLION]
    omega
  show Ql80Neutral.told (.need a.toNat p.toNat) = _
  unfold Ql80Neutral.told Ql80Neutral.answerOf
  dsimp only
  rw [if_pos e]
  rfl
/-- enough lines -/
def Enough (a p : Int) (k : Nat) : Prop := top a k * 1000000000 ≤ p * bot a k
theorem enough_iff {a p : Int} (h1 : 0 ≤ a) (h2 : 0 ≤ p) (k : Nat) : decide (Ql80.lost (Ql80.millionths a.toNat) k * (Ql80.BILLION : Rat) ≤ ((p.toNat : Nat) : Rat)) = true ↔ Enough a p k := by
  rw [decide_eq_true_iff, need_iff]
  have ea : ((a.toNat : Nat) : Int) = a := by omega
  have ep : ((p.toNat : Nat) : Int) = p := by omega
  rw [ea, ep]
  exact Iff.rfl
/-- what holds as long as lines are added -/
structure Few (a p : Int) (c : Int) (t b : Int) : Prop where
  nn : 0 ≤ c
  one : t = top a c.toNat
  two : b = bot a c.toNat
  few : ∀ k, k < c.toNat → ¬ Enough a p k
theorem few_start {a p : Int} : Few a p 0 1 1 := ⟨by omega, rfl, rfl, fun k h => absurd h (by simp)⟩
theorem few_turn {a p c t b : Int} (h : Few a p c t b) (hn : p * b < t * 1000000000) : Few a p (c + 1) (t * a) (b * 1000000 * (c + 1) + t * a) := by
  have e : (c + 1).toNat = c.toNat + 1 := by have := h.nn; omega
  have ec : ((c.toNat : Nat) : Int) = c := by have := h.nn; omega
  refine ⟨by have := h.nn; omega, ?_, ?_, ?_⟩
  · rw [e, h.one]; rfl
  · rw [e, h.one, h.two]
    show _ = bot a c.toNat * 1000000 * (((c.toNat : Nat) : Int) + 1) + top a c.toNat * a
    rw [ec]
  · intro k hk
    rw [e] at hk
    by_cases g : k < c.toNat
    · exact h.few k g
    · have g' : k = c.toNat := by omega
      rw [g']
      unfold Enough
      rw [← h.one, ← h.two]
      omega
theorem asked_enough {a p : Int} (h1 : 0 ≤ a) (h2 : 0 ≤ p) (h3 : a ≤ 1000000000) (h4 : 1 ≤ p) (h5 : p ≤ 1000000000) (h : (Ql80Neutral.answerOf (.need a.toNat p.toNat)).isSome = true) : ∃ n, n < 400 ∧ Enough a p n := by
  unfold Ql80Neutral.answerOf at h
  dsimp only at h
  rw [if_neg (by simp only [Ql80.LOAD, Ql80.BILLION]; omega)] at h
  rw [Option.isSome_map] at h
  obtain ⟨m, hm⟩ := Option.isSome_iff_exists.mp h
  obtain ⟨_, g2, g3, _⟩ := first_of _ _ _ hm
  exact ⟨m, by omega, (enough_iff h1 h2 m).mp g3⟩
theorem few_less {a p c t b : Int} (h : Few a p c t b) (hx : ∃ n, n < 400 ∧ Enough a p n) : 400 - (c + 1).toNat < 400 - c.toNat := by
  obtain ⟨n, n1, n2⟩ := hx
  have g : ¬ n < c.toNat := fun g => h.few n g n2
  have := h.nn
  omega
theorem told_need {a p c t b : Int} (h1 : 0 ≤ a) (h2 : 0 ≤ p) (h3 : a ≤ 1000000000) (h4 : 1 ≤ p) (h5 : p ≤ 1000000000) (hx : ∃ n, n < 400 ∧ Enough a p n) (h : Few a p c t b) (hn : ¬ p * b < t * 1000000000) : PyQl80.wl_need a p = [c] := by
  obtain ⟨n, n1, n2⟩ := hx
  have g : ¬ n < c.toNat := fun g => h.few n g n2
  have hc := h.nn
  have e : Ql80Neutral.firstFrom (fun (c : Nat) => decide (Ql80.lost (Ql80.millionths a.toNat) c * (Ql80.BILLION : Rat) ≤ ((p.toNat : Nat) : Rat))) 400 0 = some c.toNat := by
    refine first_some 400 0 c.toNat (by omega) (by omega) ?_ ?_
    · refine (enough_iff h1 h2 _).mpr ?_
      unfold Enough
      rw [← h.one, ← h.two]
      omega
    · intro j _ hj
      have := h.few j hj
      cases hd : decide (Ql80.lost (Ql80.millionths a.toNat) j * (Ql80.BILLION : Rat) ≤ ((p.toNat : Nat) : Rat)) with
      | false => rfl
      | true => exact absurd ((enough_iff h1 h2 j).mp hd) this
  show Ql80Neutral.told (.need a.toNat p.toNat) = _
  unfold Ql80Neutral.told Ql80Neutral.answerOf
  dsimp only
  rw [if_neg (by simp only [Ql80.LOAD, Ql80.BILLION]; omega), e]
  have ec : ((c.toNat : Nat) : Int) = c := by omega
  show Ql80Neutral.shown (Ql80.only ((c.toNat : Nat) : Int)) = _
  rw [ec]
  unfold Ql80Neutral.shown Ql80.only
  simp
theorem pre_in {a p : Int} (h : OpenSpec.pre PySem.Challenge.rw_waiting_s03_wl_need [.int a, .int p] = true) : 0 ≤ a ∧ 0 ≤ p ∧ (Ql80Neutral.answerOf (.need a.toNat p.toNat)).isSome = true := by
  obtain ⟨x, w, q, e⟩ := os_pre said h
  obtain ⟨x1, x2, u⟩ := x
  have e1 := os_j_int (List.cons.inj e).1
  have e2 := os_j_int (List.cons.inj (List.cons.inj e).2).1
  subst e1 e2
  have q' : (Ql80Neutral.natural a 32 && (Ql80Neutral.natural p 32 && (Ql80Neutral.answerOf (.need a.toNat p.toNat)).isSome)) = true := q
  simp only [Ql80Neutral.natural, Bool.and_eq_true, decide_eq_true_eq] at q'
  exact ⟨q'.1.1, q'.2.1.1, q'.2.2⟩
abbrev argA {a p : Int} (_ : OpenSpec.pre PySem.Challenge.rw_waiting_s03_wl_need [.int a, .int p] = true) : Int := a
abbrev argP {a p : Int} (_ : OpenSpec.pre PySem.Challenge.rw_waiting_s03_wl_need [.int a, .int p] = true) : Int := p
theorem mulL {z t : Int} (h0 : 0 ≤ z) (ha : z ≤ 1000000000) : IntMulOk z t :=
  PySem.IntMulOk.of_left (PySem.intBits_le_64 (by omega) (by omega))
theorem mulR {z t : Int} (h0 : 0 ≤ z) (ha : z ≤ 1000000000) : IntMulOk t z :=
  PySem.IntMulOk.of_right (PySem.intBits_le_64 (by omega) (by omega))
theorem mulC {z a p c t b : Int} (h : Few a p c t b) (hx : ∃ n, n < 400 ∧ Enough a p n) : IntMulOk z (c + 1) := by
  obtain ⟨n, n1, n2⟩ := hx
  have g : ¬ n < c.toNat := fun g => h.few n g n2
  have := h.nn
  exact mulR (by omega) (by omega)
theorem close {a p : Int} (hp : OpenSpec.pre PySem.Challenge.rw_waiting_s03_wl_need [.int a, .int p] = true) {l : List Int} (h : l = PyQl80.wl_need a p) :
    PySem.Challenge.rw_waiting_s03_wl_need.post [.int a, .int p] (ofPy (PyData.list (l.map PyData.int))) = true := by
  obtain ⟨x, w, q, e⟩ := os_pre said hp
  obtain ⟨x1, x2, u⟩ := x
  have e1 := os_j_int (List.cons.inj e).1
  have e2 := os_j_int (List.cons.inj (List.cons.inj e).2).1
  rw [e]
  refine os_shut said w ?_
  subst e1 e2
  show ofPy (PyData.list _) = WData.list (List.map WData.int (PyQl80.wl_need a p))
  exact os_list (by rw [h])
theorem close_far {a p : Int} (hp : OpenSpec.pre PySem.Challenge.rw_waiting_s03_wl_need [.int a, .int p] = true) (h : 1000000000 < a ∨ p < 1 ∨ 1000000000 < p) :
    PySem.Challenge.rw_waiting_s03_wl_need.post [.int a, .int p] (ofPy (PyData.list [PyData.int (-2)])) = true :=
  close hp (told_far (pre_in hp).1 (pre_in hp).2.1 h).symm
theorem enough_of {a p : Int} (hp : OpenSpec.pre PySem.Challenge.rw_waiting_s03_wl_need [.int a, .int p] = true) (h1 : ¬ 1000000000 < a) (h2 : ¬ p < 1) (h3 : ¬ 1000000000 < p) : ∃ n, n < 400 ∧ Enough a p n :=
  asked_enough (pre_in hp).1 (pre_in hp).2.1 (by omega) (by omega) (by omega) (pre_in hp).2.2
theorem close_need {a p c t b : Int} (hp : OpenSpec.pre PySem.Challenge.rw_waiting_s03_wl_need [.int a, .int p] = true) (h1 : ¬ 1000000000 < a) (h2 : ¬ p < 1) (h3 : ¬ 1000000000 < p) (h : Few a p c t b) (hn : ¬ p * b < t * 1000000000) :
    PySem.Challenge.rw_waiting_s03_wl_need.post [.int a, .int p] (ofPy (PyData.list [PyData.int c])) = true :=
  close hp (l := [c]) (told_need (pre_in hp).1 (pre_in hp).2.1 (by omega) (by omega) (by omega) (enough_of hp h1 h2 h3) h hn).symm
section
open PySem.Calls PyProof.Rows
variable {prog : Program} {w : World} {A : Around} {E : Value → Shared → Prop} {s : Shared} {x y : Int} {t u : Tok} {Q : Value → Shared → Prop}
theorem step_mul (hm : IntMulOk x y) (h : Q (.int (x * y) s.toks) { s with toks := s.toks + 1 }) :
    wpAny (model prog w) A (binaryOp .Mult (.int x t) (.int y u)) Q E s := PyProof.Rows.mul_int h hm
theorem step_div (hy : 0 < y) (hl : y.natAbs.log2 < 9000) (h : Q (.int (x / y) s.toks) { s with toks := s.toks + 1 }) :
    wpAny (model prog w) A (binaryOp .FloorDiv (.int x t) (.int y u)) Q E s :=
  PyProof.Rows.floordiv_int (by omega) (by rw [Int.fdiv_eq_ediv_of_nonneg _ (by omega)]; exact h) (Or.inl (PyProof.noPylong_of_log2 hl))
theorem step_mod (hy : 0 < y) (h : Q (.int (x % y) s.toks) { s with toks := s.toks + 1 }) :
    wpAny (model prog w) A (binaryOp .Mod (.int x t) (.int y u)) Q E s :=
  PyProof.Rows.mod_int (by omega) (by rw [Int.fmod_eq_emod_of_nonneg _ (by omega)]; exact h)
end
end My
open PySem PySem.W PyProof.Rows
local macro_rules | `(tactic| walk_at "binaryOp Mult int int") => `(tactic| (k_here; (with_reducible refine' My.step_mul ?k1 ?_); (case k1 => k_dflt (first | exact My.mulR (My.pre_in (by assumption)).1 (by omega) | exact My.mulL (by omega) (by omega) | exact My.mulC (by assumption) (My.enough_of (by assumption) (by assumption) (by assumption) (by assumption)) | exact My.mulR (by omega) (by omega)))))
local macro_rules | `(tactic| walk_at "exec While Compare cons nil") => `(tactic| (k_here; (rename Fr _ _ _ _ => lF'); (rename News _ _ _ _ => lN'); (with_unfolding_all refine' ksw_while (σ := Addr × Int × Tok × Int × Tok × Int × Tok) (fun q => [(q.1, ({ cls := Value.type "tuple", data := Data.seq #[Value.int q.2.1 q.2.2.1, Value.int q.2.2.2.1 q.2.2.2.2.1] } : Obj))]) (fun q => [(Str.ofString "lost", Value.ref q.1), (Str.ofString "c", Value.int q.2.2.2.2.2.1 q.2.2.2.2.2.2)]) (fun _ => True) [] (fun q => My.Few (My.argA (by assumption)) (My.argP (by assumption)) q.2.2.2.2.2.1 q.2.1 q.2.2.2.1) (fun q => 400 - q.2.2.2.2.2.1.toNat) (_, 1, _, 1, _, 0, _) lF' lN' ?kf ?kk ?kp ?_); (case kf => exact True.intro); (case kk => kst_all); (case kp => exact My.few_start); (all_goals (try clear lF' lN')); (rintro ⟨kD, kt, ktt, kb, ktb, kc, ktc⟩ kU kH kTk - kInv kFr kNews); (have kMark : KstMark := kstMark); (dsimp only [kstB] at kFr); (dsimp only at kNews); (dsimp only [My.argA, My.argP] at kInv); (try k_fold)))
local macro_rules | `(tactic| walk_at "KswEnd") => `(tactic| ((rename News _ _ _ _ => nE'); (refine' ksw_end (_, _, _, _, _, _, _) ?kF nE' ?kn ?kf ?kk ?kr ?kp ?km); (case kF => assumption); (case kk => kst_all); (case kn => kst_in); (case kf => exact True.intro); (case kr => ksw_same); (case kp => (dsimp only [My.argA, My.argP]; exact My.few_turn (by assumption) (by omega))); (case km => (dsimp only; exact My.few_less (by assumption) (My.enough_of (by assumption) (by assumption) (by assumption) (by assumption))))))
set_option maxRecDepth 100000 in
set_option maxHeartbeats 8000000 in
theorem PySem.Challenge.cw_waiting_s03_wl_need_holds : PySem.Challenge.rw_waiting_s03_wl_need.Holds := by
  open_ks with [.int 0, .int 0]
  all_goals first
    | exact My.close_far hpre (by omega)
    | exact My.close_need hpre (by assumption) (by assumption) (by assumption) (by assumption) (by omega)
