import PyProof.Rows.All
import KE.OsGo
import KE.OsArgs
import PySem.Challenge.RW_waiting_s01_wl_lost
open PySem PySem.W
set_option Elab.async false
set_option maxHeartbeats 4000000
namespace My
section
open Ql80

/-- rounding of a fraction that need not be in lowest terms -/
def half (n d : Int) : Int :=
  if 2 * (n % d) < d ∨ (2 * (n % d) = d ∧ (n / d) % 2 = 0) then n / d else n / d + 1

theorem rounded_div (n d : Int) (hd : 0 < d) : rounded ((n : Rat) / (d : Rat)) = half n d := by
  have e : ∃ g : Int, 0 < g ∧ n = ((n : Rat) / (d : Rat)).num * g ∧ d = (((n : Rat) / (d : Rat)).den : Int) * g := by
    have e1 : (n : Rat) / (d : Rat) = mkRat n d.toNat := by
      rw [← Rat.divInt_eq_div]
      have : (d.toNat : Int) = d := by omega
      rw [← Rat.divInt_ofNat, this]
    rw [e1]
    obtain ⟨m, h0, h1, h2⟩ := Rat.mkRat_num_den (d := d.toNat) (n := n) (n' := (mkRat n d.toNat).num) (d' := (mkRat n d.toNat).den) (z' := (mkRat n d.toNat).den_nz) (c := (mkRat n d.toNat).reduced) (by omega) rfl
    refine ⟨m, by omega, h1, ?_⟩
    have h3 : (d.toNat : Int) = ((mkRat n d.toNat).den * m : Nat) := by rw [← h2]
    rw [Int.natCast_mul] at h3
    omega
  obtain ⟨g, hg, en, ed⟩ := e
  unfold rounded half
  generalize ((n : Rat) / (d : Rat)).num = x at *
  generalize (((n : Rat) / (d : Rat)).den : Int) = y at *
  subst en ed
  have e1 : x * g % (y * g) = (x % y) * g := by
    rw [Int.mul_comm x g, Int.mul_comm y g, Int.mul_emod_mul_of_pos _ _ hg, Int.mul_comm]
  rw [Int.mul_ediv_mul_of_pos_left _ _ hg, e1, ← Int.mul_assoc]
  generalize 2 * (x % y) = m
  have l : m < y ↔ m * g < y * g := (Int.mul_lt_mul_right hg).symm
  have q : m = y ↔ m * g = y * g := ⟨fun h => by rw [h], fun h => Int.eq_of_mul_eq_mul_right (by omega) h⟩
  simp only [l, q]


/-- the part lost over whole numbers: top and bottom -/
def top (a : Int) : Nat → Int
  | 0 => 1
  | k + 1 => top a k * a
def bot (a : Int) : Nat → Int
  | 0 => 1
  | k + 1 => bot a k * 1000000 * ((k : Int) + 1) + top a (k + 1)
def den : Nat → Int
  | 0 => 1
  | k + 1 => den k * 1000000 * ((k : Int) + 1)

theorem den_pos : ∀ k, 0 < den k
  | 0 => by decide
  | k + 1 => by
    have := den_pos k
    simp only [den]
    exact Int.mul_pos (Int.mul_pos this (by decide)) (by omega)
theorem top_nonneg {a : Int} (h : 0 ≤ a) : ∀ k, 0 ≤ top a k
  | 0 => by simp [top]
  | k + 1 => Int.mul_nonneg (top_nonneg h k) h
theorem bot_pos {a : Int} (h : 0 ≤ a) : ∀ k, 0 < bot a k
  | 0 => by simp [bot]
  | k + 1 => by
    have h1 := bot_pos h k
    have h2 := top_nonneg h (k + 1)
    have h3 : 0 < bot a k * 1000000 * ((k : Int) + 1) := Int.mul_pos (Int.mul_pos h1 (by decide)) (by omega)
    simp only [bot]
    omega
theorem top_le_bot {a : Int} (h : 0 ≤ a) : ∀ k, top a k ≤ bot a k
  | 0 => by simp [bot, top]
  | k + 1 => by
    have h1 := bot_pos h k
    have h3 : 0 < bot a k * 1000000 * ((k : Int) + 1) := Int.mul_pos (Int.mul_pos h1 (by decide)) (by omega)
    simp only [bot]
    omega

theorem sum_append (l m : List Rat) : Ql80.sum (l ++ m) = Ql80.sum l + Ql80.sum m := by
  induction l with
  | nil => simp [Ql80.sum, Rat.zero_add]
  | cons x l ih =>
    simp only [Ql80.sum, List.cons_append, List.foldr_cons] at ih ⊢
    rw [ih, Rat.add_assoc]
theorem sum_one (x : Rat) : Ql80.sum [x] = x := by simp [Ql80.sum, Rat.add_zero]

theorem ratPos {z : Int} (h : 0 < z) : (z : Rat) ≠ 0 := by
  intro e
  have : z = 0 := by exact_mod_cast e
  omega

theorem natPos {n : Nat} (h : 0 < n) : (n : Rat) ≠ 0 := by
  intro e
  have : n = 0 := by exact_mod_cast e
  omega

theorem term_eq (a : Nat) : ∀ k, Ql80.term (millionths a) k = (top a k : Rat) / (den k : Rat)
  | 0 => by simp [Ql80.term, top, den]; grind
  | k + 1 => by
    have h := term_eq a k
    have h1 := ratPos (den_pos k)
    have h2 := natPos (n := k + 1) (by omega)
    rw [Ql80.term, h]
    simp only [top, den, millionths]
    simp only [Rat.intCast_mul, Rat.intCast_add, Rat.intCast_natCast, Rat.natCast_add] at *
    grind
theorem sum_eq (a : Nat) : ∀ k, Ql80.sum ((List.range (k + 1)).map (Ql80.term (millionths a))) = (bot a k : Rat) / (den k : Rat)
  | 0 => by simp [Ql80.term, bot, den, Ql80.sum]; grind
  | k + 1 => by
    have h := sum_eq a k
    have h1 := ratPos (den_pos k)
    have h2 := natPos (n := k + 1) (by omega)
    rw [List.range_succ, List.map_append, sum_append, h, List.map_singleton, sum_one, term_eq]
    simp only [bot, den]
    simp only [Rat.intCast_mul, Rat.intCast_add, Rat.intCast_natCast, Rat.natCast_add] at *
    grind
theorem lost_eq (a c : Nat) : Ql80.lost (millionths a) c = (top a c : Rat) / (bot a c : Rat) := by
  have h1 := ratPos (den_pos c)
  have h2 := ratPos (bot_pos (a := (a : Int)) (by omega) c)
  unfold Ql80.lost
  rw [term_eq, sum_eq]
  grind
theorem lost_in (a c : Nat) : inBillionths (Ql80.lost (millionths a) c) = half (top a c * 1000000000) (bot a c) := by
  unfold inBillionths
  rw [lost_eq, ← rounded_div _ _ (bot_pos (by omega) c)]
  congr 1
  simp only [BILLION, Rat.intCast_mul]
  grind
/-- what waits, over whole numbers -/
theorem waits_in (a c : Nat) (h : a < 1000000 * c) : inBillionths (Ql80.waits (millionths a) c) =
    half (1000000 * (c : Int) * top a c * 1000000000) (1000000 * (c : Int) * bot a c - (a : Int) * (bot a c - top a c)) := by
  have hT := top_nonneg (a := (a : Int)) (by omega) c
  have hB := bot_pos (a := (a : Int)) (by omega) c
  have hd : 0 < 1000000 * (c : Int) * bot a c - (a : Int) * (bot a c - top a c) := by
    have e1 : (a : Int) * bot a c < 1000000 * (c : Int) * bot a c := (Int.mul_lt_mul_right hB).mpr (by omega)
    have e2 : 0 ≤ (a : Int) * top a c := Int.mul_nonneg (by omega) hT
    rw [Int.mul_sub]
    omega
  unfold inBillionths
  rw [← rounded_div _ _ hd]
  congr 1
  unfold Ql80.waits
  rw [lost_eq]
  have h1 := ratPos hB
  have h2 := ratPos hd
  simp only [BILLION, millionths, Rat.intCast_mul, Rat.intCast_sub, Rat.intCast_natCast] at *
  generalize ((top (a : Int) c : Int) : Rat) = T at *
  generalize ((bot (a : Int) c : Int) : Rat) = B at *
  have h3 : (c : Rat) - (a : Rat) / 1000000 * (1 - T / B) ≠ 0 := by
    intro e
    apply h2
    have : (1000000 * (c : Rat) * B - a * (B - T)) = ((c : Rat) - (a : Rat) / 1000000 * (1 - T / B)) * 1000000 * B := by
      grind
    simp only [Rat.intCast_ofNat]
    rw [this, e]
    grind
  simp only [Rat.intCast_ofNat] at *
  have e4 : (1000000 * (c : Rat) * B - a * (B - T)) = ((c : Rat) - (a : Rat) / 1000000 * (1 - T / B)) * (1000000 * B) := by
    grind
  rw [e4]
  grind

/-! how large they are -/
theorem top_le {a : Int} (h0 : 0 ≤ a) (h1 : a ≤ 1000000000) : ∀ k, top a k ≤ 2147483648 ^ k
  | 0 => by simp [top]
  | k + 1 => by
    have ih := top_le h0 h1 k
    have hn := top_nonneg h0 k
    have hp : (0 : Int) ≤ 2147483648 ^ k := Int.pow_nonneg (by decide)
    rw [Int.pow_succ]
    show top a k * a ≤ _
    exact Int.mul_le_mul ih (by omega) h0 hp
theorem bot_le {a : Int} (h0 : 0 ≤ a) (h1 : a ≤ 1000000000) : ∀ k, k ≤ 400 → bot a k ≤ 2147483648 ^ k
  | 0, _ => by simp [bot]
  | k + 1, hk => by
    have ih := bot_le h0 h1 k (by omega)
    have tk := top_le h0 h1 k
    have tn := top_nonneg h0 k
    have hn := bot_pos h0 k
    have e1 : bot a k * 1000000 * ((k : Int) + 1) ≤ 2147483648 ^ k * 400000000 := by
      rw [Int.mul_assoc]
      exact Int.mul_le_mul ih (by omega) (by omega) (by omega)
    have e2 : top a k * a ≤ 2147483648 ^ k * 1000000000 := Int.mul_le_mul tk h1 h0 (by omega)
    have e3 : (2147483648 : Int) ^ (k + 1) = 2147483648 ^ k * 2147483648 := Int.pow_succ ..
    show bot a k * 1000000 * ((k : Int) + 1) + top a k * a ≤ _
    omega
theorem pow_log {y : Int} {k n : Nat} (h0 : 0 < y) (h : y ≤ 2147483648 ^ k) (hk : 31 * k < n) : y.natAbs.log2 < n := by
  refine (Nat.log2_lt (by omega)).mpr ?_
  have e : (2147483648 : Int) ^ k = ((2 ^ (31 * k) : Nat) : Int) := by
    rw [Nat.pow_mul]
    simp
  have l : (2 : Nat) ^ (31 * k) < 2 ^ n := Nat.pow_lt_pow_right (by decide) hk
  rw [e] at h
  omega
theorem bot_log {a : Int} (h0 : 0 ≤ a) (h1 : a ≤ 1000000000) {k : Nat} (hk : k ≤ 256) : (bot a k).natAbs.log2 < 9000 :=
  pow_log (bot_pos h0 k) (bot_le h0 h1 k (by omega)) (by omega)

/-! what is needed -/
theorem need_iff (a p c : Nat) : Ql80.lost (millionths a) c * (BILLION : Rat) ≤ (p : Rat) ↔ top a c * 1000000000 ≤ (p : Int) * bot a c := by
  have hB := bot_pos (a := (a : Int)) (by omega) c
  have h1 := ratPos hB
  have hB' : (0 : Rat) < ((bot (a : Int) c : Int) : Rat) := by exact_mod_cast hB
  rw [lost_eq]
  have e : (top (a : Int) c : Rat) / (bot (a : Int) c : Rat) * (BILLION : Rat) = ((top (a : Int) c * 1000000000 : Int) : Rat) / ((bot (a : Int) c : Int) : Rat) := by
    simp only [BILLION, Rat.intCast_mul]
    grind
  have di : ∀ x y z : Rat, 0 < y → (x / y ≤ z ↔ x ≤ z * y) := by
    intro x y z hy
    have e2 : x / y * y = x := by grind
    constructor
    · intro h
      have := Rat.mul_le_mul_of_nonneg_right h (Rat.le_of_lt hy)
      rwa [e2] at this
    · intro h
      refine Rat.le_of_mul_le_mul_right ?_ hy
      rwa [e2]
  rw [e, di _ _ _ hB']
  have : (p : Rat) * ((bot (a : Int) c : Int) : Rat) = (((p : Int) * bot (a : Int) c : Int) : Rat) := by
    simp only [Rat.intCast_mul, Rat.intCast_natCast]
  rw [this, Rat.intCast_le_intCast]
end
theorem half_up {n d : Int} (h : d < 2 * (n % d) ∨ (2 * (n % d) = d ∧ (n / d) % 2 = 1)) : n / d + 1 = half n d := by
  unfold half
  rw [if_neg (by omega)]
theorem half_down {n d : Int} (h : ¬ (d < 2 * (n % d) ∨ (2 * (n % d) = d ∧ (n / d) % 2 = 1))) : n / d = half n d := by
  unfold half
  rw [if_pos (by omega)]
theorem said : PySem.Challenge.rw_waiting_s01_wl_lost.wellSaid = true := by decide +kernel
theorem told_far {c a : Int} (h0 : 0 ≤ c) (h1 : 0 ≤ a) (h : c < 1 ∨ 256 < c ∨ 1000000000 < a) : PyQl80.wl_lost c a = [-2] := by
  have e : Ql80.lines c.toNat = false ∨ Ql80.LOAD < a.toNat := by
    simp only [Ql80.lines, Ql80.LOAD, Bool.and_eq_false_iff, decide_eq_false_iff_not]
    omega
  show Ql80Neutral.shown (if Ql80.lines c.toNat = false ∨ Ql80.LOAD < a.toNat then Ql80.only (-2) else _) = _
  rw [if_pos e]
  rfl
theorem told_lost {c a : Int} (h0 : 1 ≤ c) (h1 : 0 ≤ a) (h2 : c ≤ 256) (h3 : a ≤ 1000000000) : PyQl80.wl_lost c a = [0, half (top a c.toNat * 1000000000) (bot a c.toNat)] := by
  have e : ¬ (Ql80.lines c.toNat = false ∨ Ql80.LOAD < a.toNat) := by
    simp only [Ql80.lines, Ql80.LOAD, Bool.and_eq_false_iff, decide_eq_false_iff_not]
    omega
  show Ql80Neutral.shown (if Ql80.lines c.toNat = false ∨ Ql80.LOAD < a.toNat then Ql80.only (-2) else _) = _
  rw [if_neg e, lost_in]
  have ea : ((a.toNat : Nat) : Int) = a := by omega
  rw [ea]
  rfl
theorem pre_in {c a : Int} (h : OpenSpec.pre PySem.Challenge.rw_waiting_s01_wl_lost [.int c, .int a] = true) : 0 ≤ c ∧ 0 ≤ a := by
  obtain ⟨x, w, q, e⟩ := os_pre said h
  obtain ⟨x1, x2, u⟩ := x
  have e1 := os_j_int (List.cons.inj e).1
  have e2 := os_j_int (List.cons.inj (List.cons.inj e).2).1
  subst e1 e2
  have q' : (Ql80Neutral.natural c 32 && Ql80Neutral.natural a 32) = true := q
  simp only [Ql80Neutral.natural, Bool.and_eq_true, decide_eq_true_eq] at q'
  omega
/-- the load of a request -/
abbrev argA {c a : Int} (_ : OpenSpec.pre PySem.Challenge.rw_waiting_s01_wl_lost [.int c, .int a] = true) : Int := a
/-- the pair of k lines -/
structure Pair (a : Int) (k : Nat) (t b : Int) : Prop where
  one : t = top a k
  two : b = bot a k
theorem start {a : Int} : ∃ t b : Int, Dat.tuple [Dat.int 1, Dat.int 1] = Dat.tuple [Dat.int t, Dat.int b] ∧ Pair a ([] : List Int).length t b := ⟨1, 1, rfl, rfl, rfl⟩
theorem turn {a t b k : Int} {pre : List Int} (h : Pair a pre.length t b) (hk : k = 1 + (pre.length : Int)) :
    ∃ t' b' : Int, Dat.tuple [Dat.int (t * a), Dat.int (b * 1000000 * k + t * a)] = Dat.tuple [Dat.int t', Dat.int b'] ∧ Pair a (pre ++ [k]).length t' b' := by
  refine ⟨_, _, rfl, ?_⟩
  have l : (pre ++ [k]).length = pre.length + 1 := by simp
  have e : k = (pre.length : Int) + 1 := by omega
  rw [l]
  obtain ⟨rfl, rfl⟩ := h
  refine ⟨rfl, ?_⟩
  rw [e]
  rfl
theorem mulA {a t c : Int} (hp : OpenSpec.pre PySem.Challenge.rw_waiting_s01_wl_lost [.int c, .int a] = true) (ha : a ≤ 1000000000) : IntMulOk t a := by
  have := pre_in hp
  exact PySem.IntMulOk.of_right (PySem.intBits_le_64 (by omega) (by omega))
theorem mulL {z t : Int} (h0 : 0 ≤ z) (ha : z ≤ 1000000000) : IntMulOk z t :=
  PySem.IntMulOk.of_left (PySem.intBits_le_64 (by omega) (by omega))
theorem close {c a : Int} (hp : OpenSpec.pre PySem.Challenge.rw_waiting_s01_wl_lost [.int c, .int a] = true) {l : List Int} (h : l = PyQl80.wl_lost c a) :
    PySem.Challenge.rw_waiting_s01_wl_lost.post [.int c, .int a] (ofPy (PyData.list (l.map PyData.int))) = true := by
  obtain ⟨x, w, q, e⟩ := os_pre said hp
  obtain ⟨x1, x2, u⟩ := x
  have e1 := os_j_int (List.cons.inj e).1
  have e2 := os_j_int (List.cons.inj (List.cons.inj e).2).1
  rw [e]
  refine os_shut said w ?_
  subst e1 e2
  show ofPy (PyData.list _) = WData.list (List.map WData.int (PyQl80.wl_lost c a))
  exact os_list (by rw [h])
theorem bpos {a t b c : Int} {n : Nat} (hp : OpenSpec.pre PySem.Challenge.rw_waiting_s01_wl_lost [.int c, .int a] = true) (h : Pair a n t b) : 0 < b := by
  obtain ⟨rfl, rfl⟩ := h
  exact bot_pos (pre_in hp).2 n
theorem blog {a t b c : Int} {n : Nat} (hp : OpenSpec.pre PySem.Challenge.rw_waiting_s01_wl_lost [.int c, .int a] = true) (h : Pair a n t b) (ha : a ≤ 1000000000) (hn : n ≤ 256) : b.natAbs.log2 < 9000 := by
  obtain ⟨rfl, rfl⟩ := h
  exact bot_log (pre_in hp).2 ha hn
theorem close_far {c a : Int} (hp : OpenSpec.pre PySem.Challenge.rw_waiting_s01_wl_lost [.int c, .int a] = true) (h : c < 1 ∨ 256 < c ∨ 1000000000 < a) :
    PySem.Challenge.rw_waiting_s01_wl_lost.post [.int c, .int a] (ofPy (PyData.list [PyData.int (-2)])) = true :=
  close hp (told_far (pre_in hp).1 (pre_in hp).2 h).symm
theorem close_lost {c a t b z : Int} (hp : OpenSpec.pre PySem.Challenge.rw_waiting_s01_wl_lost [.int c, .int a] = true) (h1 : ¬ c < 1) (h2 : ¬ 256 < c) (h3 : ¬ 1000000000 < a)
    (h : Pair a (rangeKs 1 (c + 1 - 1).toNat).length t b) (hz : z = half (t * 1000000000) b) :
    PySem.Challenge.rw_waiting_s01_wl_lost.post [.int c, .int a] (ofPy (PyData.list [PyData.int 0, PyData.int z])) = true := by
  refine close hp (l := [0, z]) ?_
  rw [told_lost (by omega) (pre_in hp).2 (by omega) (by omega), hz, h.one, h.two, rangeKs_length]
  have e : c + 1 - 1 = c := by omega
  rw [e]
section
open PySem.Calls PyProof.Rows
variable {prog : Program} {w : World} {A : Around} {E : Value → Shared → Prop} {s : Shared} {x y : Int} {t u : Tok} {Q : Value → Shared → Prop}
theorem step_mul (hm : IntMulOk x y) (h : Q (.int (x * y) s.toks) { s with toks := s.toks + 1 }) :
    wpAny (model prog w) A (binaryOp .Mult (.int x t) (.int y u)) Q E s := PyProof.Rows.mul_int h hm
theorem step_div (hy : 0 < y) (hl : y.natAbs.log2 < 9000) (h : Q (.int (x / y) s.toks) { s with toks := s.toks + 1 }) :
    wpAny (model prog w) A (binaryOp .FloorDiv (.int x t) (.int y u)) Q E s :=
  PyProof.Rows.floordiv_int (by omega) (by rw [Int.fdiv_eq_ediv_of_nonneg _ (by omega)]; exact h) (Or.inl (PyProof.noPylong_of_log2 hl))
theorem step_mod (hy : 0 < y) (h : Q (.int (x % y) s.toks) { s with toks := s.toks + 1 }) :
    wpAny (model prog w) A (binaryOp .Mod (.int x t) (.int y u)) Q E s :=
  PyProof.Rows.mod_int (by omega) (by rw [Int.fmod_eq_emod_of_nonneg _ (by omega)]; exact h)
end
end My
open PySem PySem.W PyProof.Rows
local macro_rules | `(tactic| walk_at "binaryOp Mult int int") => `(tactic| (k_here; (with_reducible refine' My.step_mul ?k1 ?_); (case k1 => k_dflt (first | exact My.mulA (by assumption) (by omega) | exact My.mulL (by omega) (by omega) | exact My.mulL (My.pre_in (by assumption)).2 (by omega)))))
local macro_rules | `(tactic| walk_at "binaryOp FloorDiv int int") => `(tactic| (k_here; (with_reducible refine' My.step_div ?k1 ?k2 ?_); (case k1 => k_dflt (exact My.bpos (by assumption) (by assumption))); (case k2 => k_dflt (exact My.blog (by assumption) (by assumption) (by omega) (by first | omega | (rw [rangeKs_length]; omega))))))
local macro_rules | `(tactic| walk_at "binaryOp Mod int int") => `(tactic| (k_here; (with_reducible refine' My.step_mod ?k1 ?_); (case k1 => k_dflt (first | omega | exact My.bpos (by assumption) (by assumption)))))
set_option maxRecDepth 100000 in
set_option maxHeartbeats 8000000 in
theorem PySem.Challenge.cw_waiting_s01_wl_lost_holds : PySem.Challenge.rw_waiting_s01_wl_lost.Holds := by
  k_with "state" => first
    | exact My.start
    | exact My.turn (by assumption) (by assumption)
  k_with "pyIter ref" => k_dat (fun pre lost => ∃ t b : Int, lost = Dat.tuple [Dat.int t, Dat.int b] ∧ My.Pair (My.argA (by assumption)) pre.length t b) "lost*"
  open_ks with [.int 1, .int 0]
  all_goals first
    | exact My.close_far hpre (by omega)
    | exact My.close_lost hpre (by assumption) (by assumption) (by assumption) (by assumption) (My.half_up (by omega))
    | exact My.close_lost hpre (by assumption) (by assumption) (by assumption) (by assumption) (My.half_down (by omega))
