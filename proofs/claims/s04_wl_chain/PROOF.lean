import PyProof.Rows.All
import KE.OsGo
import KE.OsArgs
import PySem.Challenge.RW_waiting_s04_wl_chain
set_option Elab.async false
set_option maxHeartbeats 4000000
namespace My
section
open Ql80
/-- rounding of a fraction that need not be in lowest terms -/
def half (n d : Int) : Int :=
  if 2 * (n % d) < d ∨ (2 * (n % d) = d ∧ (n / d) % 2 = 0) then n / d else n / d + 1

theorem rounded_div (n d : Int) (hd : 0 < d) : rounded ((n : Rat) / (d : Rat)) = half n d := by
  have e : ∃ g : Int, 0 < g ∧ n = ((n : Rat) / (d : Rat)).num * g ∧ d = (((n : Rat) / (d : Rat)).den : Int) * g := by
    have e1 : (n : Rat) / (d : Rat) = mkRat n d.toNat := by
      rw [← Rat.divInt_eq_div]
      have : (d.toNat : Int) = d := by omega
      rw [← Rat.divInt_ofNat, this]
    rw [e1]
    obtain ⟨m, h0, h1, h2⟩ := Rat.mkRat_num_den (d := d.toNat) (n := n) (n' := (mkRat n d.toNat).num) (d' := (mkRat n d.toNat).den) (z' := (mkRat n d.toNat).den_nz) (c := (mkRat n d.toNat).reduced) (by omega) rfl
    refine ⟨m, by omega, h1, ?_⟩
    have h3 : (d.toNat : Int) = ((mkRat n d.toNat).den * m : Nat) := by rw [← h2]
    rw [Int.natCast_mul] at h3
    omega
  obtain ⟨g, hg, en, ed⟩ := e
  unfold rounded half
  generalize ((n : Rat) / (d : Rat)).num = x at *
  generalize (((n : Rat) / (d : Rat)).den : Int) = y at *
  subst en ed
  have e1 : x * g % (y * g) = (x % y) * g := by
    rw [Int.mul_comm x g, Int.mul_comm y g, Int.mul_emod_mul_of_pos _ _ hg, Int.mul_comm]
  rw [Int.mul_ediv_mul_of_pos_left _ _ hg, e1, ← Int.mul_assoc]
  generalize 2 * (x % y) = m
  have l : m < y ↔ m * g < y * g := (Int.mul_lt_mul_right hg).symm
  have q : m = y ↔ m * g = y * g := ⟨fun h => by rw [h], fun h => Int.eq_of_mul_eq_mul_right (by omega) h⟩
  simp only [l, q]


theorem ratPos {z : Int} (h : 0 < z) : (z : Rat) ≠ 0 := by
  intro e
  have : z = 0 := by exact_mod_cast e
  omega

theorem natPos {n : Nat} (h : 0 < n) : (n : Rat) ≠ 0 := by
  intro e
  have : n = 0 := by exact_mod_cast e
  omega

/-! chains -/
def prod (u : List Nat) : Nat → Int
  | 0 => 1
  | n + 1 => prod u n * (u.getD n 0 : Int)
theorem prod_pos {u : List Nat} : ∀ n, (∀ j, j < n → 0 < u.getD j 0) → 0 < prod u n
  | 0, _ => by simp [prod]
  | n + 1, h => Int.mul_pos (prod_pos n (fun j hj => h j (by omega))) (by have := h n (by omega); omega)
theorem weights_eq (u d : List Nat) : ∀ n, (∀ j, j < n → 0 < d.getD j 0) → Ql80Neutral.weights u d n = (List.range (n + 1)).map fun i => (prod u i : Rat) / (prod d i : Rat)
  | 0, _ => by
    simp [Ql80Neutral.weights, prod]
    grind
  | n + 1, h => by
    have ih := weights_eq u d n (fun j hj => h j (by omega))
    have hd := ratPos (prod_pos n (fun j hj => h j (by omega)) : 0 < prod d n)
    have hn := natPos (h n (by omega))
    unfold Ql80Neutral.weights
    rw [ih, List.range_succ (n := n + 1), List.map_append]
    simp only [List.map_singleton]
    congr 2
    rw [List.range_succ, List.map_append]
    simp only [List.map_singleton, List.getLastD_concat, prod, Rat.intCast_mul, Rat.intCast_natCast]
    generalize ((List.getD d n 0 : Nat) : Rat) = y at *
    generalize ((List.getD u n 0 : Nat) : Rat) = x at *
    grind
theorem sum_map (W : List Int) {s : Rat} : Ql80.sum (W.map fun (z : Int) => (z : Rat) / s) = ((W.sum : Int) : Rat) / s := by
  induction W with
  | nil => simp [Ql80.sum]; grind
  | cons x l ih =>
    have e : Ql80.sum ((x :: l).map fun (z : Int) => (z : Rat) / s) = (x : Rat) / s + Ql80.sum (l.map fun (z : Int) => (z : Rat) / s) := rfl
    rw [e, ih, List.sum_cons, Rat.intCast_add]
    grind
theorem chain_eq {ws : List Rat} {W : List Int} {s : Int} (hs : 0 < s) (hw : ws = W.map (fun (z : Int) => (z : Rat) / (s : Rat))) (hpos : 0 < W.sum) :
    (ws.map fun (x : Rat) => inBillionths (x / Ql80.sum ws)) = W.map fun z => half (z * 1000000000) W.sum := by
  rw [hw, sum_map, List.map_map]
  refine List.map_congr_left fun z _ => ?_
  have h1 := ratPos hs
  have h2 := ratPos hpos
  show rounded ((z : Rat) / (s : Rat) / (((W.sum : Int) : Rat) / (s : Rat)) * (BILLION : Rat)) = _
  rw [← rounded_div _ _ hpos]
  congr 1
  simp only [BILLION, Rat.intCast_mul]
  grind
end
/-! products -/
def prodL : List Int → Int
  | [] => 1
  | x :: l => x * prodL l
theorem prodL_append : ∀ l m : List Int, prodL (l ++ m) = prodL l * prodL m
  | [], m => by simp [prodL]
  | x :: l, m => by
    show x * prodL (l ++ m) = x * prodL l * prodL m
    rw [prodL_append l m, Int.mul_assoc]
theorem prodL_one (x : Int) : prodL [x] = x := by simp [prodL]
theorem prodL_pos : ∀ {l : List Int}, (∀ x ∈ l, 1 ≤ x) → 0 < prodL l
  | [], _ => by decide
  | x :: l, h => Int.mul_pos (by have := h x (List.mem_cons_self ..); omega) (prodL_pos fun y hy => h y (List.mem_cons_of_mem _ hy))
theorem prodL_le : ∀ {l : List Int}, (∀ x ∈ l, 1 ≤ x ∧ x ≤ 1000000) → prodL l ≤ 1048576 ^ l.length
  | [], _ => by decide
  | x :: l, h => by
    have hx := h x (List.mem_cons_self ..)
    have ih := prodL_le (l := l) fun y hy => h y (List.mem_cons_of_mem _ hy)
    have hp := prodL_pos (l := l) fun y hy => (h y (List.mem_cons_of_mem _ hy)).1
    show x * prodL l ≤ 1048576 ^ (l.length + 1)
    rw [Int.pow_succ, Int.mul_comm (1048576 ^ l.length)]
    exact Int.mul_le_mul (by omega) ih (by omega) (by omega)
/-- all in their range -/
structure Fair (u d : List Int) : Prop where
  up : ∀ x ∈ u, 1 ≤ x ∧ x ≤ 1000000
  down : ∀ x ∈ d, 1 ≤ x ∧ x ≤ 1000000
/-- a state's weight -/
def wt (u d : List Int) (j : Nat) : Int := prodL (d.drop j) * prodL (u.take j)
theorem wt_pos {u d : List Int} (h : Fair u d) (j : Nat) : 0 < wt u d j :=
  Int.mul_pos (prodL_pos fun x hx => (h.down x (List.mem_of_mem_drop hx)).1) (prodL_pos fun x hx => (h.up x (List.mem_of_mem_take hx)).1)
theorem wt_le {u d : List Int} (h : Fair u d) (hl : u.length = d.length) (j : Nat) : wt u d j ≤ 1048576 ^ d.length := by
  have h1 := prodL_le (l := d.drop j) fun x hx => h.down x (List.mem_of_mem_drop hx)
  have h2 := prodL_le (l := u.take j) fun x hx => h.up x (List.mem_of_mem_take hx)
  have p2 := prodL_pos (l := u.take j) fun x hx => (h.up x (List.mem_of_mem_take hx)).1
  have p1 : (0 : Int) ≤ 1048576 ^ (d.drop j).length := Int.pow_nonneg (by decide)
  refine Int.le_trans (Int.mul_le_mul h1 h2 (by omega) p1) ?_
  rw [← Int.pow_add, List.length_drop, List.length_take]
  have e : d.length - j + min j u.length = d.length := by omega
  rw [e]
  exact Int.le_refl _
/-- after k steps -/
structure Wt (u d : List Int) (k : Nat) (w : Int) (ws : List Int) : Prop where
  one : w = wt u d k
  all : ws = (List.range (k + 1)).map (wt u d)
theorem wt_start {u d : List Int} {w : Int} (h : w = prodL d) : Wt u d 0 w [w] := by
  have e : w = wt u d 0 := by
    unfold wt
    rw [List.drop_zero, List.take_zero, h]
    simp [prodL]
  refine ⟨e, ?_⟩
  rw [e]
  rfl
theorem wt_turn {u d : List Int} {k : Nat} {w : Int} {ws : List Int} (h : Wt u d k w ws) (hu : k < u.length) (hd : k < d.length) (hp : 0 < d.getD k 0) :
    Wt u d (k + 1) (w / d.getD k 0 * u.getD k 0) (ws ++ [w / d.getD k 0 * u.getD k 0]) := by
  have ed : d.getD k 0 = d[k] := by simp [hd]
  have eu : u.getD k 0 = u[k] := by simp [hu]
  have e1 : w = d.getD k 0 * (prodL (d.drop (k + 1)) * prodL (u.take k)) := by
    rw [h.one, ed]
    unfold wt
    rw [List.drop_eq_getElem_cons hd, ← Int.mul_assoc]
    rfl
  have e2 : w / d.getD k 0 = prodL (d.drop (k + 1)) * prodL (u.take k) := by
    rw [e1]
    exact Int.mul_ediv_cancel_left _ (by omega)
  have e3 : w / d.getD k 0 * u.getD k 0 = wt u d (k + 1) := by
    rw [e2, eu]
    unfold wt
    rw [List.take_succ_eq_append_getElem hu, prodL_append, prodL_one, Int.mul_assoc]
  refine ⟨e3, ?_⟩
  rw [e3, h.all, List.range_succ (n := k + 1), List.map_append]
  rfl
theorem sum_pos : ∀ {l : List Int}, (∀ x ∈ l, 0 < x) → 0 ≤ l.sum
  | [], _ => by decide
  | x :: l, h => by
    have h1 := h x (List.mem_cons_self ..)
    have h2 := sum_pos (l := l) fun y hy => h y (List.mem_cons_of_mem _ hy)
    rw [List.sum_cons]
    omega
theorem sum_le {b : Int} : ∀ {l : List Int}, (∀ x ∈ l, x ≤ b) → l.sum ≤ (l.length : Int) * b
  | [], _ => by simp
  | x :: l, h => by
    have h1 := h x (List.mem_cons_self ..)
    have h2 := sum_le (l := l) fun y hy => h y (List.mem_cons_of_mem _ hy)
    rw [List.sum_cons, List.length_cons, Int.natCast_add, Int.add_mul]
    omega
theorem total_pos {u d : List Int} {k : Nat} {w : Int} {ws : List Int} (hf : Fair u d) (h : Wt u d k w ws) : 0 < ws.sum := by
  rw [h.all, List.range_succ_eq_map, List.map_cons, List.sum_cons]
  have h1 := wt_pos hf 0
  have h2 := sum_pos (l := ((List.range k).map Nat.succ).map (wt u d)) (by
    intro x hx
    obtain ⟨j, _, rfl⟩ := List.mem_map.mp hx
    exact wt_pos hf j)
  omega
theorem total_log {u d : List Int} {k : Nat} {w : Int} {ws : List Int} (hf : Fair u d) (hl : u.length = d.length) (hd : d.length ≤ 256) (hk : k ≤ 256) (h : Wt u d k w ws) : ws.sum.natAbs.log2 < 9000 := by
  have hp := total_pos hf h
  have hb : ws.sum ≤ (ws.length : Int) * 1048576 ^ d.length := sum_le (by
    intro x hx
    rw [h.all] at hx
    obtain ⟨j, _, rfl⟩ := List.mem_map.mp hx
    exact wt_le hf hl j)
  have hwl : ws.length = k + 1 := by rw [h.all]; simp
  have hc : ws.sum ≤ 1024 * 1048576 ^ d.length := by
    refine Int.le_trans hb ?_
    exact Int.mul_le_mul_of_nonneg_right (by omega) (Int.pow_nonneg (by decide))
  refine (Nat.log2_lt (by omega)).mpr ?_
  have e : (1024 : Int) * 1048576 ^ d.length = ((2 ^ (10 + 20 * d.length) : Nat) : Int) := by
    rw [Nat.pow_add, Nat.pow_mul]
    simp
  have l : (2 : Nat) ^ (10 + 20 * d.length) < 2 ^ 9000 := Nat.pow_lt_pow_right (by decide) (by omega)
  rw [e] at hc
  omega
/-! what is told of a request -/
theorem told_far {u d : List Int} (h : u.length < 1 ∨ 256 < u.length) : PyQl80.wl_chain u d = [-2] := by
  have e : Ql80.between (u.length : Int) 1 256 = false := by
    simp only [Ql80.between, Bool.and_eq_false_iff, decide_eq_false_iff_not]
    omega
  show Ql80Neutral.told (.chain (u.length : Int) (Ql80Neutral.nats u) (Ql80Neutral.nats d)) = _
  unfold Ql80Neutral.told Ql80Neutral.answerOf
  dsimp only
  rw [if_pos e]
  rfl
theorem between_of {u : List Int} (h1 : 1 ≤ u.length) (h2 : u.length ≤ 256) : ¬ Ql80.between (u.length : Int) 1 256 = false := by
  simp only [Ql80.between, Bool.and_eq_false_iff, decide_eq_false_iff_not]
  omega
theorem rates_iff {l : List Int} (h0 : ∀ x ∈ l, 0 ≤ x) : Ql80.rates (Ql80Neutral.nats l) = true ↔ ∀ x ∈ l, 1 ≤ x ∧ x ≤ 1000000 := by
  simp only [Ql80.rates, Ql80Neutral.nats, List.all_eq_true, List.mem_map, Bool.and_eq_true, decide_eq_true_eq, forall_exists_index, and_imp, forall_apply_eq_imp_iff₂]
  constructor
  · intro h x hx
    have := h x hx
    have := h0 x hx
    omega
  · intro h x hx
    have := h x hx
    omega
theorem told_bad {u d : List Int} (h1 : 1 ≤ u.length) (h2 : u.length ≤ 256) (hu : ∀ x ∈ u, 0 ≤ x) (hd : ∀ x ∈ d, 0 ≤ x) (h : ∃ x, (x ∈ u ∨ x ∈ d) ∧ (x < 1 ∨ 1000000 < x)) : PyQl80.wl_chain u d = [-1] := by
  have e : (Ql80.rates (Ql80Neutral.nats u) && Ql80.rates (Ql80Neutral.nats d)) = false := by
    cases q : (Ql80.rates (Ql80Neutral.nats u) && Ql80.rates (Ql80Neutral.nats d)) with
    | false => rfl
    | true =>
      rw [Bool.and_eq_true, rates_iff hu, rates_iff hd] at q
      obtain ⟨x, hx, hb⟩ := h
      rcases hx with hx | hx
      · have := q.1 x hx
        omega
      · have := q.2 x hx
        omega
  show Ql80Neutral.told (.chain (u.length : Int) (Ql80Neutral.nats u) (Ql80Neutral.nats d)) = _
  unfold Ql80Neutral.told Ql80Neutral.answerOf
  dsimp only
  rw [if_neg (between_of h1 h2), if_pos e]
  rfl
theorem prod_take {u : List Int} (h0 : ∀ x ∈ u, 0 ≤ x) : ∀ n, n ≤ u.length → prod (Ql80Neutral.nats u) n = prodL (u.take n)
  | 0, _ => by simp [prod, prodL]
  | n + 1, hn => by
    have ih := prod_take h0 n (by omega)
    have hl : n < u.length := by omega
    rw [List.take_succ_eq_append_getElem hl, prodL_append, prodL_one, ← ih]
    show prod (Ql80Neutral.nats u) n * (((Ql80Neutral.nats u).getD n 0 : Nat) : Int) = _
    have e : (((Ql80Neutral.nats u).getD n 0 : Nat) : Int) = u[n] := by
      have := h0 u[n] (List.getElem_mem hl)
      simp only [Ql80Neutral.nats, List.getD_eq_getElem?_getD, List.getElem?_map, List.getElem?_eq_getElem hl, Option.map_some, Option.getD_some]
      omega
    rw [e]
theorem told_chain {u d : List Int} {w : Int} {ws : List Int} (h1 : 1 ≤ u.length) (h2 : u.length ≤ 256) (hl : u.length = d.length) (hf : Fair u d) (h : Wt u d u.length w ws) :
    PyQl80.wl_chain u d = 0 :: ws.map fun z => half (z * 1000000000) ws.sum := by
  have hu0 : ∀ x ∈ u, 0 ≤ x := fun x hx => by have := hf.up x hx; omega
  have hd0 : ∀ x ∈ d, 0 ≤ x := fun x hx => by have := hf.down x hx; omega
  have e : (Ql80.rates (Ql80Neutral.nats u) && Ql80.rates (Ql80Neutral.nats d)) = true := by
    rw [Bool.and_eq_true, rates_iff hu0, rates_iff hd0]
    exact ⟨hf.up, hf.down⟩
  have hdp : ∀ j, j < u.length → 0 < (Ql80Neutral.nats d).getD j 0 := by
    intro j hj
    have hj' : j < d.length := by omega
    have := hf.down d[j] (List.getElem_mem hj')
    simp only [Ql80Neutral.nats, List.getD_eq_getElem?_getD, List.getElem?_map, List.getElem?_eq_getElem hj', Option.map_some, Option.getD_some]
    omega
  have hs : 0 < prodL d := prodL_pos fun x hx => (hf.down x hx).1
  have hw : Ql80Neutral.weights (Ql80Neutral.nats u) (Ql80Neutral.nats d) u.length = ws.map (fun (z : Int) => (z : Rat) / ((prodL d : Int) : Rat)) := by
    rw [weights_eq _ _ _ hdp, h.all, List.map_map]
    refine List.map_congr_left fun j hj => ?_
    have hj' : j ≤ u.length := by
      have := List.mem_range.mp hj
      omega
    show ((prod (Ql80Neutral.nats u) j : Int) : Rat) / ((prod (Ql80Neutral.nats d) j : Int) : Rat) = ((wt u d j : Int) : Rat) / ((prodL d : Int) : Rat)
    rw [prod_take hu0 j hj', prod_take hd0 j (by omega)]
    have ep : prodL d = prodL (d.take j) * prodL (d.drop j) := by rw [← prodL_append, List.take_append_drop]
    have q1 := ratPos (prodL_pos (l := d.take j) fun x hx => (hf.down x (List.mem_of_mem_take hx)).1)
    have q2 := ratPos (prodL_pos (l := d.drop j) fun x hx => (hf.down x (List.mem_of_mem_drop hx)).1)
    rw [ep]
    unfold wt
    simp only [Rat.intCast_mul]
    generalize ((prodL (d.take j) : Int) : Rat) = x at *
    generalize ((prodL (d.drop j) : Int) : Rat) = y at *
    generalize ((prodL (u.take j) : Int) : Rat) = z at *
    grind
  show Ql80Neutral.told (.chain (u.length : Int) (Ql80Neutral.nats u) (Ql80Neutral.nats d)) = _
  unfold Ql80Neutral.told Ql80Neutral.answerOf
  dsimp only
  rw [if_neg (between_of h1 h2), if_neg (by rw [e]; decide), Int.toNat_natCast]
  unfold Ql80Neutral.shown
  dsimp only
  rw [if_neg (by decide), List.append_nil, ← chain_eq hs hw (total_pos hf h)]
end My
open PySem PySem.W
namespace My
theorem said : PySem.Challenge.rw_waiting_s04_wl_chain.wellSaid = true := by decide +kernel
theorem asked_eq : PySem.Challenge.rw_waiting_s04_wl_chain.asked = PyQl80.wl_chain_asked := by
  unfold PySem.Challenge.rw_waiting_s04_wl_chain
  with_reducible rfl
theorem app_eq (f : List Int → List Int → Bool) (u d : List Int) (y : Codec.denoteAll []) : Codec.app PySem.Challenge.rw_waiting_s04_wl_chain.args f (u, d, y) = f u d := rfl
theorem pre_in {u d : List Int} (h : OpenSpec.pre PySem.Challenge.rw_waiting_s04_wl_chain [ofPy (.list (u.map PyData.int)), ofPy (.list (d.map PyData.int))] = true) :
    (∀ x ∈ u, 0 ≤ x ∧ x ≤ 4294967295) ∧ (∀ x ∈ d, 0 ≤ x ∧ x ≤ 4294967295) ∧ u.length ≤ 256 ∧ d.length = u.length := by
  obtain ⟨x, w, q, e⟩ := os_pre said h
  obtain ⟨x1, x2, y⟩ := x
  have e1 := os_j_ints (List.cons.inj e).1
  have e2 := os_j_ints (List.cons.inj (List.cons.inj e).2).1
  subst e1 e2
  rw [asked_eq, app_eq] at q
  have q' := q
  simp only [PyQl80.wl_chain_asked, Ql80Neutral.asked, Ql80Neutral.whole32, Ql80Neutral.natural, Ql80Neutral.long, Bool.and_eq_true, List.all_eq_true, decide_eq_true_eq] at q'
  obtain ⟨_, a1, a2, a3, a4⟩ := q'
  refine ⟨fun x hx => ?_, fun x hx => ?_, ?_, ?_⟩
  · have := a1 x hx
    omega
  · have := a2 x hx
    omega
  · split at a3 <;> omega
  · omega
theorem same_len {u d : List Int} (h : OpenSpec.pre PySem.Challenge.rw_waiting_s04_wl_chain [ofPy (.list (u.map PyData.int)), ofPy (.list (d.map PyData.int))] = true) : d.length = u.length := (pre_in h).2.2.2
abbrev argU {u d : List Int} (_ : OpenSpec.pre PySem.Challenge.rw_waiting_s04_wl_chain [ofPy (.list (u.map PyData.int)), ofPy (.list (d.map PyData.int))] = true) : List Int := u
abbrev argD {u d : List Int} (_ : OpenSpec.pre PySem.Challenge.rw_waiting_s04_wl_chain [ofPy (.list (u.map PyData.int)), ofPy (.list (d.map PyData.int))] = true) : List Int := d
theorem up_pos {u d : List Int} {vs : List Value} (_ : OpenSpec.pre PySem.Challenge.rw_waiting_s04_wl_chain [ofPy (.list (u.map PyData.int)), ofPy (.list (d.map PyData.int))] = true) (hi : PyProof.Rows.IntsAre vs u) (h : ¬ (vs.toArray.size : Int) < 1) : 0 < u.length := by
  have := hi.length
  rw [List.size_toArray] at h
  omega
theorem down_pos {u d : List Int} {vs : List Value} (hp : OpenSpec.pre PySem.Challenge.rw_waiting_s04_wl_chain [ofPy (.list (u.map PyData.int)), ofPy (.list (d.map PyData.int))] = true) (hi : PyProof.Rows.IntsAre vs u) (h : ¬ (vs.toArray.size : Int) < 1) : 0 < d.length := by
  have := up_pos hp hi h
  have := same_len hp
  omega
theorem close {u d l : List Int} (hp : OpenSpec.pre PySem.Challenge.rw_waiting_s04_wl_chain [ofPy (.list (u.map PyData.int)), ofPy (.list (d.map PyData.int))] = true) (h : l = PyQl80.wl_chain u d) :
    PySem.Challenge.rw_waiting_s04_wl_chain.post [ofPy (.list (u.map PyData.int)), ofPy (.list (d.map PyData.int))] (ofPy (PyData.list (l.map PyData.int))) = true := by
  obtain ⟨x, w, q, e⟩ := os_pre said hp
  obtain ⟨x1, x2, y⟩ := x
  have e1 := os_j_ints (List.cons.inj e).1
  have e2 := os_j_ints (List.cons.inj (List.cons.inj e).2).1
  rw [e]
  refine os_shut said w ?_
  subst e1 e2
  show ofPy (PyData.list _) = WData.list (List.map WData.int (PyQl80.wl_chain u d))
  exact os_list (by rw [h])
/-- the least and the greatest of a list -/
def minL : List Int → Int
  | [] => 0
  | [x] => x
  | x :: y :: l => min x (minL (y :: l))
def maxL : List Int → Int
  | [] => 0
  | [x] => x
  | x :: y :: l => max x (maxL (y :: l))
theorem minL_in : ∀ {l : List Int}, 0 < l.length → minL l ∈ l ∧ ∀ a ∈ l, minL l ≤ a
  | [], h => absurd h (Nat.not_lt_zero _)
  | [x], _ => by simp [minL]
  | x :: y :: l, _ => by
    obtain ⟨h1, h2⟩ := minL_in (l := y :: l) (Nat.zero_lt_succ _)
    show min x (minL (y :: l)) ∈ x :: y :: l ∧ ∀ a ∈ x :: y :: l, min x (minL (y :: l)) ≤ a
    generalize minL (y :: l) = m at *
    constructor
    · by_cases g : x ≤ m
      · rw [Int.min_eq_left g]
        exact List.mem_cons_self ..
      · rw [Int.min_eq_right (by omega)]
        exact List.mem_cons_of_mem _ h1
    · intro a ha
      rcases List.mem_cons.mp ha with rfl | ha
      · omega
      · have := h2 a ha
        omega
theorem maxL_in : ∀ {l : List Int}, 0 < l.length → maxL l ∈ l ∧ ∀ a ∈ l, a ≤ maxL l
  | [], h => absurd h (Nat.not_lt_zero _)
  | [x], _ => by simp [maxL]
  | x :: y :: l, _ => by
    obtain ⟨h1, h2⟩ := maxL_in (l := y :: l) (Nat.zero_lt_succ _)
    show max x (maxL (y :: l)) ∈ x :: y :: l ∧ ∀ a ∈ x :: y :: l, a ≤ max x (maxL (y :: l))
    generalize maxL (y :: l) = m at *
    constructor
    · by_cases g : m ≤ x
      · rw [Int.max_eq_left g]
        exact List.mem_cons_self ..
      · rw [Int.max_eq_right (by omega)]
        exact List.mem_cons_of_mem _ h1
    · intro a ha
      rcases List.mem_cons.mp ha with rfl | ha
      · omega
      · have := h2 a ha
        omega
theorem minL_eq {l : List Int} {M : Int} (h : M ∈ l) (hle : ∀ a, a ∈ l → M ≤ a) : M = minL l := by
  obtain ⟨h1, h2⟩ := minL_in (List.length_pos_of_mem h)
  have := h2 M h
  have := hle _ h1
  omega
theorem maxL_eq {l : List Int} {M : Int} (h : M ∈ l) (hle : ∀ a, a ∈ l → a ≤ M) : M = maxL l := by
  obtain ⟨h1, h2⟩ := maxL_in (List.length_pos_of_mem h)
  have := h2 M h
  have := hle _ h1
  omega
theorem fair_of {l : List Int} (h : (if minL l < 1 then decide (minL l < 1) else decide (1000000 < maxL l)) = false) : ∀ x ∈ l, 1 ≤ x ∧ x ≤ 1000000 := by
  intro x hx
  have h1 := (minL_in (List.length_pos_of_mem hx)).2 x hx
  have h2 := (maxL_in (List.length_pos_of_mem hx)).2 x hx
  split at h
  · rename_i g
    rw [decide_eq_true g] at h
    cases h
  · have := of_decide_eq_false h
    omega
theorem bad_of {l : List Int} (hl : 0 < l.length) (h : (if minL l < 1 then decide (minL l < 1) else decide (1000000 < maxL l)) = true) : ∃ x, x ∈ l ∧ (x < 1 ∨ 1000000 < x) := by
  split at h
  · exact ⟨_, (minL_in hl).1, Or.inl (of_decide_eq_true h)⟩
  · exact ⟨_, (maxL_in hl).1, Or.inr (of_decide_eq_true h)⟩
theorem getD_in {l : List Int} {k : Nat} (hk : k < l.length) : l.getD k 0 ∈ l := by
  rw [List.getD_eq_getElem?_getD, List.getElem?_eq_getElem hk]
  exact List.getElem_mem hk
theorem getD_le {l : List Int} (h : ∀ x ∈ l, 0 ≤ x ∧ x ≤ 4294967295) (k : Nat) : 0 ≤ l.getD k 0 ∧ l.getD k 0 ≤ 4294967295 := by
  by_cases hk : k < l.length
  · exact h _ (getD_in hk)
  · rw [List.getD_eq_getElem?_getD, List.getElem?_eq_none (by omega)]
    decide
structure Mul (pre : List Int) (w : Int) : Prop where
  eq : w = prodL pre
theorem mul_start : Mul [] 1 := ⟨rfl⟩
theorem mul_turn {pre : List Int} {w v : Int} (h : Mul pre w) : Mul (pre ++ [v]) (w * v) := ⟨by rw [prodL_append, prodL_one, h.eq]⟩
theorem wts_start {u d : List Int} {w : Int} (hp : OpenSpec.pre PySem.Challenge.rw_waiting_s04_wl_chain [ofPy (.list (u.map PyData.int)), ofPy (.list (d.map PyData.int))] = true) (h : Mul d w) :
    [w].length = ([] : List Int).length + 1 ∧ Wt (argU hp) (argD hp) ([] : List Int).length w [w] := ⟨rfl, wt_start h.eq⟩
theorem dpos {d : List Int} {k : Nat} (h : (if minL d < 1 then decide (minL d < 1) else decide (1000000 < maxL d)) = false) (hk : k < d.length) : 0 < d.getD k 0 := by
  have := fair_of h _ (getD_in hk)
  omega
theorem dlog {u d : List Int} {k : Nat} (hp : OpenSpec.pre PySem.Challenge.rw_waiting_s04_wl_chain [ofPy (.list (u.map PyData.int)), ofPy (.list (d.map PyData.int))] = true) : (d.getD k 0).natAbs.log2 < 9000 := by
  have h := getD_le (pre_in hp).2.1 k
  by_cases g : (d.getD k 0).natAbs = 0
  · rw [g]
    decide
  · refine (Nat.log2_lt g).mpr ?_
    have l : (2 : Nat) ^ 32 < 2 ^ 9000 := Nat.pow_lt_pow_right (by decide) (by decide)
    omega
theorem dposK {u d pre : List Int} {vs : List Value} {kN : Int} (hp : OpenSpec.pre PySem.Challenge.rw_waiting_s04_wl_chain [ofPy (.list (u.map PyData.int)), ofPy (.list (d.map PyData.int))] = true)
    (hf : (if minL d < 1 then decide (minL d < 1) else decide (1000000 < maxL d)) = false) (hk : kN = 0 + (pre.length : Int)) (hi : PyProof.Rows.IntsAre vs u) (hl : pre.length < ((vs.length : Int) - 0).toNat) : 0 < d.getD kN.toNat 0 := by
  have hs := same_len hp
  have hv := hi.length
  exact dpos hf (by omega)
theorem app_size {u d pre ws : List Int} {vs wv : List Value} (hp : OpenSpec.pre PySem.Challenge.rw_waiting_s04_wl_chain [ofPy (.list (u.map PyData.int)), ofPy (.list (d.map PyData.int))] = true)
    (hi : PyProof.Rows.IntsAre vs u) (hw : PyProof.Rows.IntsAre wv ws) (h : ws.length = pre.length + 1) (hl : pre.length < ((vs.length : Int) - 0).toNat) : wv.toArray.size ≤ sizeLine := by
  have hv := hi.length
  have hx := hw.length
  have hb := (pre_in hp).2.2.1
  rw [List.size_toArray, sizeLine_eq]
  omega
theorem idx0 {pre : List Int} {kN : Int} (hk : kN = 0 + (pre.length : Int)) : 0 ≤ kN := by omega
theorem idxU {u d pre : List Int} {vs : List Value} {kN : Int} (_ : OpenSpec.pre PySem.Challenge.rw_waiting_s04_wl_chain [ofPy (.list (u.map PyData.int)), ofPy (.list (d.map PyData.int))] = true)
    (hk : kN = 0 + (pre.length : Int)) (hi : PyProof.Rows.IntsAre vs u) (hl : pre.length < ((vs.length : Int) - 0).toNat) : kN < u.length := by
  have hv := hi.length
  omega
theorem idxD {u d pre : List Int} {vs : List Value} {kN : Int} (hp : OpenSpec.pre PySem.Challenge.rw_waiting_s04_wl_chain [ofPy (.list (u.map PyData.int)), ofPy (.list (d.map PyData.int))] = true)
    (hk : kN = 0 + (pre.length : Int)) (hi : PyProof.Rows.IntsAre vs u) (hl : pre.length < ((vs.length : Int) - 0).toNat) : kN < d.length := by
  have hv := hi.length
  have hs := same_len hp
  omega
theorem idxF {u d pre : List Int} {vs : List Value} {kN : Int} (hp : OpenSpec.pre PySem.Challenge.rw_waiting_s04_wl_chain [ofPy (.list (u.map PyData.int)), ofPy (.list (d.map PyData.int))] = true)
    (hk : kN = 0 + (pre.length : Int)) (hi : PyProof.Rows.IntsAre vs u) (hl : pre.length < ((vs.length : Int) - 0).toNat) : kN < 2 ^ 63 := by
  have hv := hi.length
  have hb := (pre_in hp).2.2.1
  omega
theorem src_size {u d ws : List Int} {vs wv : List Value} (hp : OpenSpec.pre PySem.Challenge.rw_waiting_s04_wl_chain [ofPy (.list (u.map PyData.int)), ofPy (.list (d.map PyData.int))] = true)
    (hi : PyProof.Rows.IntsAre vs u) (hw : PyProof.Rows.IntsAre wv ws) (h : ws.length = (rangeKs 0 ((vs.length : Int) - 0).toNat).length + 1) : wv.toArray.size ≤ sizeLine := by
  have hv := hi.length
  have hx := hw.length
  have hb := (pre_in hp).2.2.1
  rw [rangeKs_length] at h
  rw [List.size_toArray, sizeLine_eq]
  omega
theorem add_size {u d ws : List Int} {vs : List Value} {x : Int} {g : Int → Int} (hp : OpenSpec.pre PySem.Challenge.rw_waiting_s04_wl_chain [ofPy (.list (u.map PyData.int)), ofPy (.list (d.map PyData.int))] = true)
    (hi : PyProof.Rows.IntsAre vs u) (h : ws.length = (rangeKs 0 ((vs.length : Int) - 0).toNat).length + 1) : [x].length + (ws.map g).length ≤ sizeLine := by
  have hv := hi.length
  have hb := (pre_in hp).2.2.1
  rw [rangeKs_length] at h
  rw [List.length_map, List.length_singleton, sizeLine_eq]
  omega
theorem wts_turn {u d : List Int} {vs : List Value} {pre ws : List Int} {w kN : Int} (hp : OpenSpec.pre PySem.Challenge.rw_waiting_s04_wl_chain [ofPy (.list (u.map PyData.int)), ofPy (.list (d.map PyData.int))] = true)
    (h1 : ws.length = pre.length + 1) (h2 : Wt (argU hp) (argD hp) pre.length w ws) (hf : (if minL d < 1 then decide (minL d < 1) else decide (1000000 < maxL d)) = false) (hk : kN = 0 + (pre.length : Int)) (hi : PyProof.Rows.IntsAre vs u) (hl' : pre.length < ((vs.length : Int) - 0).toNat) :
    (ws ++ [w / d.getD kN.toNat 0 * u.getD kN.toNat 0]).length = (pre ++ [kN]).length + 1 ∧ Wt (argU hp) (argD hp) (pre ++ [kN]).length (w / d.getD kN.toNat 0 * u.getD kN.toNat 0) (ws ++ [w / d.getD kN.toNat 0 * u.getD kN.toNat 0]) := by
  have e : kN.toNat = pre.length := by omega
  have e2 : (pre ++ [kN]).length = pre.length + 1 := by simp
  have hs := same_len hp
  have hv := hi.length
  have hl : pre.length < u.length := by omega
  have hd : pre.length < d.length := by omega
  have hp0 : 0 < d.getD pre.length 0 := dpos hf hd
  rw [e2, e]
  refine ⟨by simp [h1], ?_⟩
  exact wt_turn h2 hl hd hp0
theorem tpos {u d ws : List Int} {w : Int} {n : Nat} (hp : OpenSpec.pre PySem.Challenge.rw_waiting_s04_wl_chain [ofPy (.list (u.map PyData.int)), ofPy (.list (d.map PyData.int))] = true)
    (fu : (if minL u < 1 then decide (minL u < 1) else decide (1000000 < maxL u)) = false) (fd : (if minL d < 1 then decide (minL d < 1) else decide (1000000 < maxL d)) = false)
    (h : Wt (argU hp) (argD hp) n w ws) : 0 < ws.sum := total_pos ⟨fair_of fu, fair_of fd⟩ h
theorem tlog {u d ws : List Int} {vs : List Value} {w : Int} (hp : OpenSpec.pre PySem.Challenge.rw_waiting_s04_wl_chain [ofPy (.list (u.map PyData.int)), ofPy (.list (d.map PyData.int))] = true)
    (fu : (if minL u < 1 then decide (minL u < 1) else decide (1000000 < maxL u)) = false) (fd : (if minL d < 1 then decide (minL d < 1) else decide (1000000 < maxL d)) = false)
    (hi : PyProof.Rows.IntsAre vs u) (h : Wt (argU hp) (argD hp) (rangeKs 0 ((vs.length : Int) - 0).toNat).length w ws) : ws.sum.natAbs.log2 < 9000 := by
  have hs := same_len hp
  have hb := (pre_in hp).2.2.1
  have hv := hi.length
  refine total_log ⟨fair_of fu, fair_of fd⟩ hs.symm ?_ ?_ h
  · omega
  · rw [rangeKs_length]
    omega
/-- one may divide by it -/
structure DivOk (y : Int) : Prop where
  pos : 0 < y
  small : y.natAbs.log2 < 9000
theorem divG {u d pre : List Int} {vs : List Value} {kN : Int} (hp : OpenSpec.pre PySem.Challenge.rw_waiting_s04_wl_chain [ofPy (.list (u.map PyData.int)), ofPy (.list (d.map PyData.int))] = true)
    (hf : (if minL d < 1 then decide (minL d < 1) else decide (1000000 < maxL d)) = false) (hk : kN = 0 + (pre.length : Int)) (hi : PyProof.Rows.IntsAre vs u) (hl : pre.length < ((vs.length : Int) - 0).toNat) : DivOk (d.getD kN.toNat 0) :=
  ⟨dposK hp hf hk hi hl, dlog hp⟩
theorem divS {u d ws : List Int} {vs : List Value} {w : Int} (hp : OpenSpec.pre PySem.Challenge.rw_waiting_s04_wl_chain [ofPy (.list (u.map PyData.int)), ofPy (.list (d.map PyData.int))] = true)
    (fu : (if minL u < 1 then decide (minL u < 1) else decide (1000000 < maxL u)) = false) (fd : (if minL d < 1 then decide (minL d < 1) else decide (1000000 < maxL d)) = false)
    (hi : PyProof.Rows.IntsAre vs u) (h : Wt (argU hp) (argD hp) (rangeKs 0 ((vs.length : Int) - 0).toNat).length w ws) : DivOk ws.sum :=
  ⟨tpos hp fu fd h, tlog hp fu fd hi h⟩
theorem mulL {z t : Int} (h0 : 0 ≤ z) (ha : z ≤ 1000000000) : IntMulOk z t :=
  PySem.IntMulOk.of_left (PySem.intBits_le_64 (by omega) (by omega))
theorem mulR {z t : Int} (h0 : 0 ≤ z) (ha : z ≤ 4294967295) : IntMulOk t z :=
  PySem.IntMulOk.of_right (PySem.intBits_le_64 (by omega) (by omega))
theorem mulMem {u d : List Int} {v t : Int} (hp : OpenSpec.pre PySem.Challenge.rw_waiting_s04_wl_chain [ofPy (.list (u.map PyData.int)), ofPy (.list (d.map PyData.int))] = true) (hv : v ∈ d) : IntMulOk t v :=
  mulR ((pre_in hp).2.1 v hv).1 ((pre_in hp).2.1 v hv).2
theorem mulUp {u d : List Int} {k : Nat} {t : Int} (hp : OpenSpec.pre PySem.Challenge.rw_waiting_s04_wl_chain [ofPy (.list (u.map PyData.int)), ofPy (.list (d.map PyData.int))] = true) : IntMulOk t (u.getD k 0) :=
  mulR (getD_le (pre_in hp).1 k).1 (getD_le (pre_in hp).1 k).2
section
open PySem.Calls PyProof.Rows
variable {prog : Program} {w : World} {A : Around} {E : Value → Shared → Prop} {s : Shared} {x y : Int} {t u : Tok} {Q : Value → Shared → Prop}
theorem step_mul (hm : IntMulOk x y) (h : Q (.int (x * y) s.toks) { s with toks := s.toks + 1 }) :
    wpAny (model prog w) A (binaryOp .Mult (.int x t) (.int y u)) Q E s := PyProof.Rows.mul_int h hm
theorem step_div (hy : 0 < y) (hl : y.natAbs.log2 < 9000) (h : Q (.int (x / y) s.toks) { s with toks := s.toks + 1 }) :
    wpAny (model prog w) A (binaryOp .FloorDiv (.int x t) (.int y u)) Q E s :=
  PyProof.Rows.floordiv_int (by omega) (by rw [Int.fdiv_eq_ediv_of_nonneg _ (by omega)]; exact h) (Or.inl (PyProof.noPylong_of_log2 hl))
theorem step_mulG {l : List Int} {k : Nat} (hm : IntMulOk x (l.getD k 0)) (h : Q (.int (x * l.getD k 0) s.toks) { s with toks := s.toks + 1 }) :
    wpAny (model prog w) A (binaryOp .Mult (.int x t) (.int (l.getD k 0) u)) Q E s := step_mul hm h
theorem step_divG {l : List Int} {k : Nat} (hy : DivOk (l.getD k 0)) (h : Q (.int (x / l.getD k 0) s.toks) { s with toks := s.toks + 1 }) :
    wpAny (model prog w) A (binaryOp .FloorDiv (.int x t) (.int (l.getD k 0) u)) Q E s := step_div hy.pos hy.small h
theorem step_divS {l : List Int} (hy : DivOk l.sum) (h : Q (.int (x / l.sum) s.toks) { s with toks := s.toks + 1 }) :
    wpAny (model prog w) A (binaryOp .FloorDiv (.int x t) (.int l.sum u)) Q E s := step_div hy.pos hy.small h
theorem step_modS {l : List Int} (hy : DivOk l.sum) (h : Q (.int (x % l.sum) s.toks) { s with toks := s.toks + 1 }) :
    wpAny (model prog w) A (binaryOp .Mod (.int x t) (.int l.sum u)) Q E s :=
  PyProof.Rows.mod_int (by have := hy.pos; omega) (by rw [Int.fmod_eq_emod_of_nonneg _ (by have := hy.pos; omega)]; exact h)
theorem step_mod (hy : 0 < y) (h : Q (.int (x % y) s.toks) { s with toks := s.toks + 1 }) :
    wpAny (model prog w) A (binaryOp .Mod (.int x t) (.int y u)) Q E s :=
  PyProof.Rows.mod_int (by omega) (by rw [Int.fmod_eq_emod_of_nonneg _ (by omega)]; exact h)
end
section
open PySem.Calls PyProof.Rows
variable {prog : Program} {w : World} {A : Around} {E : Value → Shared → Prop} {s : Shared} {h0 : Heap} {L l : Addr} {m : Str → Option Value} {news : List (Addr × Obj)} {vs : List Value} {ns : List Int} {Q : Value → Shared → Prop}
theorem step_min (F : Fr h0 L s.heap m) (N : News h0 L s.heap news) (hl : s.heap.IsList l vs.toArray) (hi : IntsAre vs ns) (hne : 0 < ns.length) (hh : A.handled = none)
    (h : ∀ h' (t : Tok) tk, Fr h0 L h' m → News h0 L h' news → Q (.int (minL ns) t) { s with heap := h', toks := tk }) :
    wpAny (model prog w) A (call (.builtin "min") [.ref l]) Q E s :=
  kso_min F N hl hi hne hh fun h' M t tk F' N' a b => by rw [minL_eq a b]; exact h h' t tk F' N'
theorem step_max (F : Fr h0 L s.heap m) (N : News h0 L s.heap news) (hl : s.heap.IsList l vs.toArray) (hi : IntsAre vs ns) (hne : 0 < ns.length) (hh : A.handled = none)
    (h : ∀ h' (t : Tok) tk, Fr h0 L h' m → News h0 L h' news → Q (.int (maxL ns) t) { s with heap := h', toks := tk }) :
    wpAny (model prog w) A (call (.builtin "max") [.ref l]) Q E s :=
  kso_max F N hl hi hne hh fun h' M t tk F' N' a b => by rw [maxL_eq a b]; exact h h' t tk F' N'
end
theorem half_ways (z t : Int) : (if t < 2 * (z * 1000000000 % t) then z * 1000000000 / t + 1 else if 2 * (z * 1000000000 % t) = t ∧ z * 1000000000 / t % 2 = 1 then z * 1000000000 / t + 1
    else if 2 * (z * 1000000000 % t) = t ∧ ¬ z * 1000000000 / t % 2 = 1 then z * 1000000000 / t else z * 1000000000 / t) = half (z * 1000000000) t := by
  unfold half
  generalize z * 1000000000 % t = r
  generalize z * 1000000000 / t = q
  repeat' split
  all_goals omega
theorem close_few {u d : List Int} {vs : List Value} (hp : OpenSpec.pre PySem.Challenge.rw_waiting_s04_wl_chain [ofPy (.list (u.map PyData.int)), ofPy (.list (d.map PyData.int))] = true) (hi : PyProof.Rows.IntsAre vs u) (h : (vs.toArray.size : Int) < 1) :
    PySem.Challenge.rw_waiting_s04_wl_chain.post [ofPy (.list (u.map PyData.int)), ofPy (.list (d.map PyData.int))] (ofPy (PyData.list [PyData.int (-2)])) = true :=
  close hp (l := [-2]) (told_far (by have := hi.length; rw [List.size_toArray] at h; omega)).symm
theorem close_many {u d : List Int} {vs : List Value} (hp : OpenSpec.pre PySem.Challenge.rw_waiting_s04_wl_chain [ofPy (.list (u.map PyData.int)), ofPy (.list (d.map PyData.int))] = true) (hi : PyProof.Rows.IntsAre vs u) (h : 256 < (vs.toArray.size : Int)) :
    PySem.Challenge.rw_waiting_s04_wl_chain.post [ofPy (.list (u.map PyData.int)), ofPy (.list (d.map PyData.int))] (ofPy (PyData.list [PyData.int (-2)])) = true :=
  close hp (l := [-2]) (told_far (by have := hi.length; rw [List.size_toArray] at h; omega)).symm
theorem close_up {u d : List Int} {vs : List Value} (hp : OpenSpec.pre PySem.Challenge.rw_waiting_s04_wl_chain [ofPy (.list (u.map PyData.int)), ofPy (.list (d.map PyData.int))] = true) (hi : PyProof.Rows.IntsAre vs u) (h : ¬ (vs.toArray.size : Int) < 1) (hb : (if minL u < 1 then decide (minL u < 1) else decide (1000000 < maxL u)) = true) :
    PySem.Challenge.rw_waiting_s04_wl_chain.post [ofPy (.list (u.map PyData.int)), ofPy (.list (d.map PyData.int))] (ofPy (PyData.list [PyData.int (-1)])) = true := by
  have h1 := up_pos hp hi h
  obtain ⟨x, hx, hy⟩ := bad_of h1 hb
  exact close hp (l := [-1]) (told_bad h1 (pre_in hp).2.2.1 (fun x hx => ((pre_in hp).1 x hx).1) (fun x hx => ((pre_in hp).2.1 x hx).1) ⟨x, Or.inl hx, hy⟩).symm
theorem close_down {u d : List Int} {vs : List Value} (hp : OpenSpec.pre PySem.Challenge.rw_waiting_s04_wl_chain [ofPy (.list (u.map PyData.int)), ofPy (.list (d.map PyData.int))] = true) (hi : PyProof.Rows.IntsAre vs u) (h : ¬ (vs.toArray.size : Int) < 1) (hb : (if minL d < 1 then decide (minL d < 1) else decide (1000000 < maxL d)) = true) :
    PySem.Challenge.rw_waiting_s04_wl_chain.post [ofPy (.list (u.map PyData.int)), ofPy (.list (d.map PyData.int))] (ofPy (PyData.list [PyData.int (-1)])) = true := by
  have h1 := up_pos hp hi h
  obtain ⟨x, hx, hy⟩ := bad_of (down_pos hp hi h) hb
  exact close hp (l := [-1]) (told_bad h1 (pre_in hp).2.2.1 (fun x hx => ((pre_in hp).1 x hx).1) (fun x hx => ((pre_in hp).2.1 x hx).1) ⟨x, Or.inr hx, hy⟩).symm
theorem close_chain {u d ws : List Int} {vs : List Value} {w : Int} (hp : OpenSpec.pre PySem.Challenge.rw_waiting_s04_wl_chain [ofPy (.list (u.map PyData.int)), ofPy (.list (d.map PyData.int))] = true) (hi : PyProof.Rows.IntsAre vs u) (h : ¬ (vs.toArray.size : Int) < 1)
    (fu : (if minL u < 1 then decide (minL u < 1) else decide (1000000 < maxL u)) = false) (fd : (if minL d < 1 then decide (minL d < 1) else decide (1000000 < maxL d)) = false) (hw : Wt (argU hp) (argD hp) (rangeKs 0 ((vs.length : Int) - 0).toNat).length w ws) :
    PySem.Challenge.rw_waiting_s04_wl_chain.post [ofPy (.list (u.map PyData.int)), ofPy (.list (d.map PyData.int))] (WData.list (ofPys (([0] ++ ws.map fun z => if ws.sum < 2 * (z * 1000000000 % ws.sum) then z * 1000000000 / ws.sum + 1 else if 2 * (z * 1000000000 % ws.sum) = ws.sum ∧ z * 1000000000 / ws.sum % 2 = 1 then z * 1000000000 / ws.sum + 1
      else if 2 * (z * 1000000000 % ws.sum) = ws.sum ∧ ¬ z * 1000000000 / ws.sum % 2 = 1 then z * 1000000000 / ws.sum else z * 1000000000 / ws.sum).map PyData.int))) = true := by
  simp only [half_ways]
  have e0 : ∀ l : List Int, WData.list (ofPys (l.map PyData.int)) = ofPy (.list (l.map PyData.int)) := fun l => by simp [ofPy]
  rw [e0]
  refine close hp ?_
  have h1 := up_pos hp hi h
  have hv := hi.length
  have e : (rangeKs 0 ((vs.length : Int) - 0).toNat).length = u.length := by
    rw [rangeKs_length]
    omega
  rw [e] at hw
  rw [told_chain h1 (pre_in hp).2.2.1 (same_len hp).symm ⟨fair_of fu, fair_of fd⟩ hw]
  rfl
end My
open PySem PySem.W PyProof.Rows
local macro_rules | `(tactic| walk_at "call builtin:min") => `(tactic| (k_here; (with_reducible show wpAny _ _ (call (Value.builtin _) [Value.ref _]) _ _ _); (with_unfolding_all refine' My.step_min ?k1 ?k2 ?k3 ?k4 ?k5 ?k6 ?_; (case k1 => k_asm); (case k2 => k_asm); (case k3 => kso_list); (case k4 => l_ints); (case k5 => (first | exact My.up_pos (by assumption) (by assumption) (by assumption) | exact My.down_pos (by assumption) (by assumption) (by assumption))); (case k6 => with_unfolding_all rfl); k_whole); intro h' t' k' F' N'))
local macro_rules | `(tactic| walk_at "call builtin:max") => `(tactic| (k_here; (with_reducible show wpAny _ _ (call (Value.builtin _) [Value.ref _]) _ _ _); (with_unfolding_all refine' My.step_max ?k1 ?k2 ?k3 ?k4 ?k5 ?k6 ?_; (case k1 => k_asm); (case k2 => k_asm); (case k3 => kso_list); (case k4 => l_ints); (case k5 => (first | exact My.up_pos (by assumption) (by assumption) (by assumption) | exact My.down_pos (by assumption) (by assumption) (by assumption))); (case k6 => with_unfolding_all rfl); k_whole); intro h' t' k' F' N'))
local macro_rules | `(tactic| walk_at "binaryOp Mult int int") => `(tactic| (k_here; first | ((with_reducible refine' My.step_mulG ?k1 ?_); (case k1 => with_reducible (exact My.mulUp (by assumption)))) | ((with_reducible refine' My.step_mul ?k1 ?_); (case k1 => with_reducible (first | exact My.mulL (by decide) (by decide) | exact My.mulR (by decide) (by decide) | exact My.mulMem (by assumption) (by assumption))))))
local macro_rules | `(tactic| walk_at "binaryOp FloorDiv int int") => `(tactic| (k_here; first | ((with_reducible refine' My.step_divG ?k1 ?_); (case k1 => with_reducible (exact My.divG (by assumption) (by assumption) (by assumption) (by assumption) (by assumption)))) | ((with_reducible refine' My.step_divS ?k1 ?_); (case k1 => with_reducible (exact My.divS (by assumption) (by assumption) (by assumption) (by assumption) (by assumption))))))
local macro_rules | `(tactic| walk_at "binaryOp Mod int int") => `(tactic| (k_here; first | ((with_reducible refine' My.step_modS ?k1 ?_); (case k1 => with_reducible (exact My.divS (by assumption) (by assumption) (by assumption) (by assumption) (by assumption)))) | ((with_reducible refine' My.step_mod ?k1 ?_); (case k1 => decide))))
local macro_rules | `(tactic| walk_at "call builtin:list.append") => `(tactic| (k_here; (with_reducible show wpAny _ _ (call (Value.builtin _) [Value.ref _, _]) _ _ _); k_dflt (refine' append_K ?k1 ?k2 ?k3 ?_ ?z; (case k1 => k_asm); (case k2 => k_asm); (case k3 => k_upd); (case z => exact My.app_size (by assumption) (by assumption) (by assumption) (by assumption) (by assumption)); k_whole); intro h' F' N'; (try k_sweep)))
local macro_rules | `(tactic| walk_at "subscriptTail Name Name ref int") => `(tactic| ((with_reducible show wpAny _ _ (subscriptTail _ _ (Value.ref _) (Value.int _ _)) _ _ _); (with_unfolding_all refine' item_list_ints ?k1 ?k2 ?k3 ?k4 ?k5 ?_; (case k1 => is_list); (case k2 => l_ints); (case k3 => with_reducible (exact My.idx0 (by assumption))); (case k4 => with_reducible (first | exact My.idxU (by assumption) (by assumption) (by assumption) (by assumption) | exact My.idxD (by assumption) (by assumption) (by assumption) (by assumption))); (case k5 => with_reducible (exact My.idxF (by assumption) (by assumption) (by assumption) (by assumption))); k_whole); intro _))
local macro_rules | `(tactic| walk_at "eval ListComp") => `(tactic| (k_here; k_dflt (refine LCg.ListComp_U (F₀ := by k_asm) (by with_unfolding_all rfl) (by decide) (by rfl) (by decide) (by rfl) ?_)))
local macro_rules | `(tactic| walk_at "CompSrc") => `(tactic| (k_here; k_dflt (refine LCg.CompSrc.ledger (by rfl) (by k_asm) (by k_asm) (by k_mem) (by exact My.src_size (by assumption) (by assumption) (by assumption) (by assumption)) ?_; intro g'; (refine' kcf_list _ (by assumption) (fun k' t' I' oI' C' oC' D' m' ys' h' tk' E' hk' hC' hx' F' N' off' ne' hMark' => ?_) ?_); (all_goals (try (simp only [LCg.Off3, and_true] at off'))); kcf_last)))
local macro_rules | `(tactic| walk_at "binaryOp Add ref ref") => `(tactic| (k_here; (with_reducible show wpAny _ _ (binaryOp _ (Value.ref _) (Value.ref _)) _ _ _); k_dflt (refine' kmk_add_ints ?F ?N ?a ?b ?i ?j ?_ ?z; (case F => k_asm); (case N => k_asm); (case a => kmk_list); (case b => kmk_list); (case i => l_ints); (case j => l_ints); (case z => exact My.add_size (by assumption) (by assumption) (by assumption))); intro D' ws' h' F' N' l1 hI'; (try k_lt l1); (try k_sweep)))
set_option maxRecDepth 100000 in
set_option maxHeartbeats 8000000 in
theorem PySem.Challenge.cw_waiting_s04_wl_chain_holds : PySem.Challenge.rw_waiting_s04_wl_chain.Holds := by
  k_with "state" => first
    | exact My.mul_start
    | exact My.mul_turn (by assumption)
    | exact My.wts_start (by assumption) (by assumption)
    | exact My.wts_turn (by assumption) (by assumption) (by assumption) (by assumption) (by assumption) (by assumption) (by assumption)
  k_with "pyIter ref" => (k_of "speed" => k_state (fun pre weight => My.Mul pre weight) "weight")
  k_with "pyIter ref" => (k_of "i" => k_state (fun pre weight weights => weights.length = pre.length + 1 ∧ My.Wt (My.argU (by assumption)) (My.argD (by assumption)) pre.length weight weights) "weight" "weights")
  open_ks with [.list [], .list []]
  all_goals first
    | exact My.close_few hpre (by assumption) (by assumption)
    | exact My.close_many hpre (by assumption) (by assumption)
    | exact My.close_up hpre (by assumption) (by assumption) (by assumption)
    | exact My.close_down hpre (by assumption) (by assumption) (by assumption)
    | exact My.close_chain hpre (by assumption) (by assumption) (by assumption) (by assumption) (by assumption)
