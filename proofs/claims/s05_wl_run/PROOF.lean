import PyProof.Rows.All
import KE.OsGo
import KE.OsArgs
import PySem.Challenge.RW_waiting_s05_wl_run
set_option Elab.async false
set_option maxHeartbeats 4000000
namespace My
theorem insert_perm (x : Nat) : ∀ l : List Nat, (Ql80.insert x l).Perm (x :: l)
  | [] => List.Perm.refl _
  | y :: l => by
    unfold Ql80.insert
    split
    · exact List.Perm.refl _
    · exact ((insert_perm x l).cons y).trans (List.Perm.swap x y l)
theorem insert_sorted {x : Nat} : ∀ {l : List Nat}, l.Pairwise (· ≤ ·) → (Ql80.insert x l).Pairwise (· ≤ ·)
  | [], _ => by simp [Ql80.insert]
  | y :: l, h => by
    unfold Ql80.insert
    have h1 := List.pairwise_cons.mp h
    split
    · rename_i hxy
      refine List.pairwise_cons.mpr ⟨fun z hz => ?_, h⟩
      rcases List.mem_cons.mp hz with rfl | hz
      · exact hxy
      · exact Nat.le_trans hxy (h1.1 z hz)
    · rename_i hxy
      refine List.pairwise_cons.mpr ⟨fun z hz => ?_, insert_sorted h1.2⟩
      rcases List.mem_cons.mp ((insert_perm x l).mem_iff.mp hz) with rfl | hz
      · omega
      · exact h1.1 z hz
/-! in order, none too late -/
def ok (b : Int) : List Int → Bool
  | [] => true
  | x :: l => !decide (x < b) && (!decide (4611686018427387904 < x) && ok x l)
theorem ok_nats : ∀ (l : List Int) (b : Int), 0 ≤ b → (∀ x ∈ l, 0 ≤ x) →
    ok b l = (Ql80.inOrder (b.toNat :: Ql80Neutral.nats l) && !((Ql80Neutral.nats l).any fun (x : Nat) => decide (2 ^ 62 < x)))
  | [], b, _, _ => by simp [ok, Ql80Neutral.nats, Ql80.inOrder]
  | x :: l, b, hb, h => by
    have hx := h x (List.mem_cons_self ..)
    have ih := ok_nats l x hx (fun y hy => h y (List.mem_cons_of_mem _ hy))
    have e1 : (!decide (x < b)) = decide (b.toNat ≤ x.toNat) := by
      by_cases g : x < b
      · rw [decide_eq_true g, decide_eq_false (by omega)]; rfl
      · rw [decide_eq_false g, decide_eq_true (by omega)]; rfl
    have e2 : decide (4611686018427387904 < x) = decide (2 ^ 62 < x.toNat) := by
      by_cases g : 4611686018427387904 < x
      · rw [decide_eq_true g, decide_eq_true (by omega)]
      · rw [decide_eq_false g, decide_eq_false (by omega)]
    show (!decide (x < b) && (!decide (4611686018427387904 < x) && ok x l)) = (Ql80.inOrder (b.toNat :: x.toNat :: Ql80Neutral.nats l) && !((x.toNat :: Ql80Neutral.nats l).any fun (x : Nat) => decide (2 ^ 62 < x)))
    rw [ih, e1, e2, List.any_cons]
    show _ = ((decide (b.toNat ≤ x.toNat) && Ql80.inOrder (x.toNat :: Ql80Neutral.nats l)) && _)
    generalize decide (b.toNat ≤ x.toNat) = p
    generalize decide (2 ^ 62 < x.toNat) = q
    generalize Ql80.inOrder (x.toNat :: Ql80Neutral.nats l) = r
    generalize ((Ql80Neutral.nats l).any fun (x : Nat) => decide (2 ^ 62 < x)) = t
    revert p q r t
    decide
theorem inOrder_zero (l : List Nat) : Ql80.inOrder (0 :: l) = Ql80.inOrder l := by
  cases l with
  | nil => rfl
  | cons x l => simp [Ql80.inOrder]
theorem ok_zero {l : List Int} (h : ∀ x ∈ l, 0 ≤ x) : ok 0 l = (Ql80.inOrder (Ql80Neutral.nats l) && !((Ql80Neutral.nats l).any fun (x : Nat) => decide (2 ^ 62 < x))) := by
  rw [ok_nats l 0 (by omega) h, Int.toNat_zero, inOrder_zero]
structure Ord (pre : List Int) (before : Int) : Prop where
  eq : ∀ rest, ok 0 (pre ++ rest) = ok before rest
theorem ord_start : Ord [] 0 := ⟨fun _ => rfl⟩
theorem ord_turn {pre : List Int} {b v : Int} (h : Ord pre b) (h1 : ¬ v < b) (h2 : ¬ 4611686018427387904 < v) : Ord (pre ++ [v]) v :=
  ⟨fun rest => by
    rw [List.append_assoc, h.eq]
    show (!decide (v < b) && (!decide (4611686018427387904 < v) && ok v rest)) = _
    rw [decide_eq_false h1, decide_eq_false h2]
    rfl⟩
theorem ord_end {l : List Int} {b : Int} (h : Ord l b) : ok 0 l = true := by
  have := h.eq []
  rwa [List.append_nil] at this
theorem ord_low {l pre post : List Int} {b v : Int} (h : Ord pre b) (e : l = pre ++ v :: post) (h1 : v < b) : ok 0 l = false := by
  rw [e, h.eq]
  show (!decide (v < b) && _) = _
  rw [decide_eq_true h1]
  rfl
theorem ord_late {l pre post : List Int} {b v : Int} (h : Ord pre b) (e : l = pre ++ v :: post) (h2 : 4611686018427387904 < v) : ok 0 l = false := by
  rw [e, h.eq]
  show (!decide (v < b) && (!decide (4611686018427387904 < v) && ok v post)) = _
  rw [decide_eq_true h2]
  simp
/-! what is told of a request -/
theorem told_far {c : Int} {come need : List Int} (h : c < 1 ∨ 64 < c ∨ 65536 < (come.length : Int)) : PyQl80.wl_run c come need = [-2] := by
  have e : Ql80.isRun c (come.length : Int) = false := by
    simp only [Ql80.isRun, Ql80.between, Bool.and_eq_false_iff, decide_eq_false_iff_not]
    omega
  show Ql80Neutral.shown (if Ql80.isRun c (come.length : Int) = false then Ql80.only (-2) else _) = _
  rw [if_pos e]
  rfl
theorem isRun_of {c : Int} {n : Nat} (h1 : ¬ c < 1) (h2 : ¬ 64 < c) (h3 : ¬ 65536 < (n : Int)) : ¬ Ql80.isRun c (n : Int) = false := by
  simp only [Ql80.isRun, Ql80.between, Bool.and_eq_false_iff, decide_eq_false_iff_not]
  omega
theorem told_bad {c : Int} {come need : List Int} (h1 : ¬ c < 1) (h2 : ¬ 64 < c) (h3 : ¬ 65536 < (come.length : Int)) (h0 : ∀ x ∈ come, 0 ≤ x) (h : ok 0 come = false) : PyQl80.wl_run c come need = [-1] := by
  show Ql80Neutral.shown (if Ql80.isRun c (come.length : Int) = false then Ql80.only (-2) else if Ql80.inOrder (Ql80Neutral.nats come) = false ∨ ((Ql80Neutral.nats come).any fun (x : Nat) => decide (2 ^ 62 < x)) = true then Ql80.only (-1) else _) = _
  rw [ok_zero h0] at h
  rw [if_neg (isRun_of h1 h2 h3), if_pos]
  · rfl
  · simpa only [Bool.and_eq_false_iff, Bool.not_eq_false'] using h
theorem told_run {c : Int} {come need : List Int} (h1 : ¬ c < 1) (h2 : ¬ 64 < c) (h3 : ¬ 65536 < (come.length : Int)) (h0 : ∀ x ∈ come, 0 ≤ x) (h : ok 0 come = true) :
    PyQl80.wl_run c come need = 0 :: (Ql80.begins (List.replicate c.toNat 0) ((Ql80Neutral.nats come).zip (Ql80Neutral.nats need))).map fun (x : Nat) => (x : Int) := by
  show Ql80Neutral.shown (if Ql80.isRun c (come.length : Int) = false then Ql80.only (-2) else if Ql80.inOrder (Ql80Neutral.nats come) = false ∨ ((Ql80Neutral.nats come).any fun (x : Nat) => decide (2 ^ 62 < x)) = true then Ql80.only (-1) else _) = _
  rw [ok_zero h0] at h
  rw [if_neg (isRun_of h1 h2 h3), if_neg]
  · unfold Ql80Neutral.shown
    simp
  · simp only [Bool.and_eq_true, Bool.not_eq_true'] at h
    rw [h.1, h.2]
    simp
/-! the servers -/
def tasks (come need : List Int) : List (Nat × Nat) := (Ql80Neutral.nats come).zip (Ql80Neutral.nats need)
structure Run (c : Int) (come need : List Int) (k : Nat) (free answer : List Int) : Prop where
  st : ∃ fs : List Nat, fs.Pairwise (· ≤ ·) ∧ (fs.map fun (x : Nat) => (x : Int)).Perm free ∧
    0 :: ((Ql80.begins (List.replicate c.toNat 0) (tasks come need)).map fun (x : Nat) => (x : Int)) = answer ++ (Ql80.begins fs ((tasks come need).drop k)).map fun (x : Nat) => (x : Int)
theorem flat_zero (n : Nat) : (List.replicate n [(0 : Int)]).flatten = List.replicate n 0 := by
  induction n with
  | zero => rfl
  | succ n ih => rw [List.replicate_succ, List.flatten_cons, ih, List.replicate_succ]; rfl
theorem run_start {c : Int} {come need : List Int} : Run c come need 0 (List.replicate c.toNat [(0 : Int)]).flatten [0] := by
  refine ⟨List.replicate c.toNat 0, ?_, ?_, rfl⟩
  · exact List.pairwise_replicate.mpr (Or.inr (Nat.le_refl _))
  · rw [flat_zero, List.map_replicate]
    exact List.Perm.refl _
theorem set_perm : ∀ (l : List Int) (i : Nat) (a : Int), i < l.length → (l.set i a).Perm (a :: l.eraseIdx i)
  | [], _, _, h => absurd h (Nat.not_lt_zero _)
  | _ :: _, 0, _, _ => List.Perm.refl _
  | x :: l, i + 1, a, h => ((set_perm l i a (Nat.lt_of_succ_lt_succ h)).cons x).trans (List.Perm.swap a x _)
theorem tasks_drop {come need : List Int} {k : Nat} (h1 : k < come.length) (h2 : k < need.length) :
    (tasks come need).drop k = ((come.getD k 0).toNat, (need.getD k 0).toNat) :: (tasks come need).drop (k + 1) := by
  have hl : k < (tasks come need).length := by
    simp only [tasks, Ql80Neutral.nats, List.length_zip, List.length_map]
    omega
  rw [List.drop_eq_getElem_cons hl]
  congr 1
  simp only [tasks, Ql80Neutral.nats, List.getElem_zip, List.getElem_map, List.getD_eq_getElem?_getD]
  rw [List.getElem?_eq_getElem h1, List.getElem?_eq_getElem h2]
  rfl
theorem run_turn {c : Int} {come need : List Int} {k : Nat} {free answer : List Int} {M : Int} {i : Nat} {b : Int} (h : Run c come need k free answer)
    (hm : M ∈ free) (hle : ∀ a ∈ free, M ≤ a) (hi : free[i]? = some M) (h1 : k < come.length) (h2 : k < need.length) (h0 : ∀ x ∈ come, 0 ≤ x) (h0' : ∀ x ∈ need, 0 ≤ x)
    (hb : b = max (come.getD k 0) M) :
    Run c come need (k + 1) (free.set i (b + need.getD k 0)) (answer ++ [b]) := by
  obtain ⟨fs, hs, hp, he⟩ := h.st
  have hil : i < free.length := (List.getElem?_eq_some_iff.mp hi).1
  have hiM : free[i] = M := (List.getElem?_eq_some_iff.mp hi).2
  cases fs with
  | nil =>
    have := hp.length_eq
    simp only [List.map_nil, List.length_nil] at this
    omega
  | cons f r =>
    have hfM : (f : Int) = M := by
      have m1 : (f : Int) ∈ free := hp.mem_iff.mp (by simp)
      have m2 := hp.mem_iff.mpr hm
      have a1 := hle _ m1
      rw [List.map_cons, List.mem_cons] at m2
      rcases m2 with m2 | m2
      · omega
      · obtain ⟨y, hy, ey⟩ := List.mem_map.mp m2
        have := (List.pairwise_cons.mp hs).1 y hy
        omega
    have hck : 0 ≤ come.getD k 0 := by
      rw [List.getD_eq_getElem?_getD, List.getElem?_eq_getElem h1]
      exact h0 _ (List.getElem_mem h1)
    have hnk : 0 ≤ need.getD k 0 := by
      rw [List.getD_eq_getElem?_getD, List.getElem?_eq_getElem h2]
      exact h0' _ (List.getElem_mem h2)
    have hbs : b = ((max (come.getD k 0).toNat f : Nat) : Int) := by omega
    refine ⟨⟨Ql80.insert (max (come.getD k 0).toNat f + (need.getD k 0).toNat) r, ?_, ?_, ?_⟩⟩
    · exact insert_sorted (List.pairwise_cons.mp hs).2
    · have p1 : (r.map fun (x : Nat) => (x : Int)).Perm (free.eraseIdx i) := by
        have q1 : (M :: free.eraseIdx i).Perm free := by
          have q0 := set_perm free i M hil
          have q3 : free.set i M = free := by
            rw [← hiM]
            exact List.set_getElem_self hil
          rw [q3] at q0
          exact q0.symm
        have q2 := hp.trans q1.symm
        rw [List.map_cons, hfM] at q2
        exact q2.cons_inv
      have p2 : (free.set i (b + need.getD k 0)).Perm ((b + need.getD k 0) :: free.eraseIdx i) := set_perm free i _ hil
      have e3 : b + need.getD k 0 = ((max (come.getD k 0).toNat f + (need.getD k 0).toNat : Nat) : Int) := by omega
      refine (((insert_perm _ r).map fun (x : Nat) => (x : Int)).trans ?_).trans p2.symm
      rw [List.map_cons, ← e3]
      exact p1.cons _
    · rw [he, tasks_drop h1 h2]
      show answer ++ List.map _ ((max (come.getD k 0).toNat f) :: Ql80.begins (Ql80.insert (max (come.getD k 0).toNat f + (need.getD k 0).toNat) r) ((tasks come need).drop (k + 1))) = _
      rw [List.map_cons, hbs, List.append_assoc]
      rfl
theorem run_end {c : Int} {come need free answer : List Int} {k : Nat} (h : Run c come need k free answer) (hk : come.length ≤ k) :
    0 :: ((Ql80.begins (List.replicate c.toNat 0) (tasks come need)).map fun (x : Nat) => (x : Int)) = answer := by
  obtain ⟨fs, hs, hp, he⟩ := h.st
  rw [he, List.drop_eq_nil_of_le]
  · cases fs <;> simp [Ql80.begins]
  · simp only [tasks, Ql80Neutral.nats, List.length_zip, List.length_map]
    omega
end My
open PySem PySem.W
namespace My
theorem said : PySem.Challenge.rw_waiting_s05_wl_run.wellSaid = true := by decide +kernel
theorem pre_in {c : Int} {come need : List Int} (h : OpenSpec.pre PySem.Challenge.rw_waiting_s05_wl_run [.int c, ofPy (.list (come.map PyData.int)), ofPy (.list (need.map PyData.int))] = true) :
    (∀ x ∈ come, 0 ≤ x) ∧ (∀ x ∈ need, 0 ≤ x) ∧ come.length ≤ 65536 ∧ (¬ c < 1 → ¬ 64 < c → need.length = come.length) := by
  obtain ⟨x, w, q, e⟩ := os_pre said h
  obtain ⟨x1, x2, x3, u⟩ := x
  have e1 := os_j_int (List.cons.inj e).1
  have e2 := os_j_ints (List.cons.inj (List.cons.inj e).2).1
  have e3 := os_j_ints (List.cons.inj (List.cons.inj (List.cons.inj e).2).2).1
  subst e1 e2 e3
  have q' : Ql80Neutral.asked [[5, c, (come.length : Int)], come, need] = true := q
  simp only [Ql80Neutral.asked, Ql80Neutral.whole32, Ql80Neutral.natural, NeutralIO.within, Bool.and_eq_true, List.all_eq_true, decide_eq_true_eq, beq_iff_eq] at q'
  obtain ⟨_, _, a1, a2, a3, a4⟩ := q'
  refine ⟨fun x hx => (a1 x hx).1, fun x hx => (a2 x hx).1, (by split at a3 <;> omega), fun g1 g2 => ?_⟩
  rw [if_pos ⟨⟨by omega, by omega⟩, by omega, by omega⟩] at a4
  omega
theorem same_len {c : Int} {come need : List Int} (h : OpenSpec.pre PySem.Challenge.rw_waiting_s05_wl_run [.int c, ofPy (.list (come.map PyData.int)), ofPy (.list (need.map PyData.int))] = true) (h1 : ¬ c < 1) (h2 : ¬ 64 < c) : need.length = come.length := (pre_in h).2.2.2 h1 h2
abbrev argC {c : Int} {come need : List Int} (_ : OpenSpec.pre PySem.Challenge.rw_waiting_s05_wl_run [.int c, ofPy (.list (come.map PyData.int)), ofPy (.list (need.map PyData.int))] = true) : Int := c
abbrev argL {c : Int} {come need : List Int} (_ : OpenSpec.pre PySem.Challenge.rw_waiting_s05_wl_run [.int c, ofPy (.list (come.map PyData.int)), ofPy (.list (need.map PyData.int))] = true) : List Int := come
abbrev argN {c : Int} {come need : List Int} (_ : OpenSpec.pre PySem.Challenge.rw_waiting_s05_wl_run [.int c, ofPy (.list (come.map PyData.int)), ofPy (.list (need.map PyData.int))] = true) : List Int := need
theorem close {c : Int} {come need l : List Int} (hp : OpenSpec.pre PySem.Challenge.rw_waiting_s05_wl_run [.int c, ofPy (.list (come.map PyData.int)), ofPy (.list (need.map PyData.int))] = true) (h : l = PyQl80.wl_run c come need) :
    PySem.Challenge.rw_waiting_s05_wl_run.post [.int c, ofPy (.list (come.map PyData.int)), ofPy (.list (need.map PyData.int))] (ofPy (PyData.list (l.map PyData.int))) = true := by
  obtain ⟨x, w, q, e⟩ := os_pre said hp
  obtain ⟨x1, x2, x3, u⟩ := x
  have e1 := os_j_int (List.cons.inj e).1
  have e2 := os_j_ints (List.cons.inj (List.cons.inj e).2).1
  have e3 := os_j_ints (List.cons.inj (List.cons.inj (List.cons.inj e).2).2).1
  rw [e]
  refine os_shut said w ?_
  subst e1 e2 e3
  show ofPy (PyData.list _) = WData.list (List.map WData.int (PyQl80.wl_run c come need))
  exact os_list (by rw [h])
theorem free_pos {c : Int} {come need l : List Int} (hp : OpenSpec.pre PySem.Challenge.rw_waiting_s05_wl_run [.int c, ofPy (.list (come.map PyData.int)), ofPy (.list (need.map PyData.int))] = true) (h : l.length = (argC hp).toNat) (hc : ¬ c < 1) : 0 < l.length := by
  dsimp only [argC] at h
  omega
theorem free_few {c : Int} {come need l : List Int} (hp : OpenSpec.pre PySem.Challenge.rw_waiting_s05_wl_run [.int c, ofPy (.list (come.map PyData.int)), ofPy (.list (need.map PyData.int))] = true) (h : l.length = (argC hp).toNat) (hc : ¬ 64 < c) : l.length ≤ 64 := by
  dsimp only [argC] at h
  omega
theorem turn {c : Int} {come need : List Int} (hp : OpenSpec.pre PySem.Challenge.rw_waiting_s05_wl_run [.int c, ofPy (.list (come.map PyData.int)), ofPy (.list (need.map PyData.int))] = true)
    {pre free answer : List Int} {kN M : Int} {j : Nat} (h1 : free.length = (argC hp).toNat) (h2 : answer.length = pre.length + 1) (h3 : Run (argC hp) (argL hp) (argN hp) pre.length free answer)
    (hm : M ∈ free) (hle : ∀ a, a ∈ free → M ≤ a) (hj : free[j]? = some M) (hk : kN = 0 + (pre.length : Int)) (hs : need.length = come.length) (hl : pre.length < come.length) :
    (free.set ((j : Int).toNat) ((if M > come.getD kN.toNat 0 then M else come.getD kN.toNat 0) + need.getD kN.toNat 0)).length = (argC hp).toNat ∧
    (answer ++ [if M > come.getD kN.toNat 0 then M else come.getD kN.toNat 0]).length = (pre ++ [kN]).length + 1 ∧
    Run (argC hp) (argL hp) (argN hp) (pre ++ [kN]).length (free.set ((j : Int).toNat) ((if M > come.getD kN.toNat 0 then M else come.getD kN.toNat 0) + need.getD kN.toNat 0)) (answer ++ [if M > come.getD kN.toNat 0 then M else come.getD kN.toNat 0]) := by
  dsimp only [argC, argL, argN] at *
  have e : kN.toNat = pre.length := by omega
  have e2 : (pre ++ [kN]).length = pre.length + 1 := by simp
  rw [e2, e, Int.toNat_natCast]
  refine ⟨by rw [List.length_set, h1], by simp [h2], ?_⟩
  refine run_turn h3 hm hle hj hl (by omega) (pre_in hp).1 (pre_in hp).2.1 ?_
  split <;> omega
theorem close_far {c : Int} {come need : List Int} (hp : OpenSpec.pre PySem.Challenge.rw_waiting_s05_wl_run [.int c, ofPy (.list (come.map PyData.int)), ofPy (.list (need.map PyData.int))] = true) (h : c < 1 ∨ 64 < c) :
    PySem.Challenge.rw_waiting_s05_wl_run.post [.int c, ofPy (.list (come.map PyData.int)), ofPy (.list (need.map PyData.int))] (ofPy (PyData.list [PyData.int (-2)])) = true :=
  close hp (l := [-2]) (told_far (by omega)).symm
theorem close_many {c : Int} {come need : List Int} {vs : List Value} (hp : OpenSpec.pre PySem.Challenge.rw_waiting_s05_wl_run [.int c, ofPy (.list (come.map PyData.int)), ofPy (.list (need.map PyData.int))] = true) (hi : PyProof.Rows.IntsAre vs come) (h : 65536 < (vs.toArray.size : Int)) :
    PySem.Challenge.rw_waiting_s05_wl_run.post [.int c, ofPy (.list (come.map PyData.int)), ofPy (.list (need.map PyData.int))] (ofPy (PyData.list [PyData.int (-2)])) = true :=
  close hp (l := [-2]) (told_far (by have := hi.length; rw [List.size_toArray] at h; omega)).symm
theorem close_low {c v b : Int} {come need pre post : List Int} (hp : OpenSpec.pre PySem.Challenge.rw_waiting_s05_wl_run [.int c, ofPy (.list (come.map PyData.int)), ofPy (.list (need.map PyData.int))] = true) (h1 : ¬ c < 1) (h2 : ¬ 64 < c)
    (h : Ord pre b) (e : come = pre ++ v :: post) (hv : v < b) :
    PySem.Challenge.rw_waiting_s05_wl_run.post [.int c, ofPy (.list (come.map PyData.int)), ofPy (.list (need.map PyData.int))] (ofPy (PyData.list [PyData.int (-1)])) = true :=
  close hp (l := [-1]) (told_bad h1 h2 (by have := (pre_in hp).2.2.1; omega) (pre_in hp).1 (ord_low h e hv)).symm
theorem close_late {c v b : Int} {come need pre post : List Int} (hp : OpenSpec.pre PySem.Challenge.rw_waiting_s05_wl_run [.int c, ofPy (.list (come.map PyData.int)), ofPy (.list (need.map PyData.int))] = true) (h1 : ¬ c < 1) (h2 : ¬ 64 < c)
    (h : Ord pre b) (e : come = pre ++ v :: post) (hv : 4611686018427387904 < v) :
    PySem.Challenge.rw_waiting_s05_wl_run.post [.int c, ofPy (.list (come.map PyData.int)), ofPy (.list (need.map PyData.int))] (ofPy (PyData.list [PyData.int (-1)])) = true :=
  close hp (l := [-1]) (told_bad h1 h2 (by have := (pre_in hp).2.2.1; omega) (pre_in hp).1 (ord_late h e hv)).symm
theorem close_run {c b : Int} {come need free answer : List Int} {vs : List Value} (hp : OpenSpec.pre PySem.Challenge.rw_waiting_s05_wl_run [.int c, ofPy (.list (come.map PyData.int)), ofPy (.list (need.map PyData.int))] = true) (h1 : ¬ c < 1) (h2 : ¬ 64 < c)
    (ho : Ord come b) (hi : PyProof.Rows.IntsAre vs come) (h : Run (argC hp) (argL hp) (argN hp) (rangeKs 0 ((vs.length : Int) - 0).toNat).length free answer) :
    PySem.Challenge.rw_waiting_s05_wl_run.post [.int c, ofPy (.list (come.map PyData.int)), ofPy (.list (need.map PyData.int))] (WData.list (ofPys (answer.map PyData.int))) = true := by
  have e0 : WData.list (ofPys (answer.map PyData.int)) = ofPy (.list (answer.map PyData.int)) := by simp [ofPy]
  rw [e0]
  refine close hp ?_
  dsimp only [argC, argL, argN] at h
  rw [told_run h1 h2 (by have := (pre_in hp).2.2.1; omega) (pre_in hp).1 (ord_end ho)]
  refine (run_end h ?_).symm
  have := hi.length
  rw [rangeKs_length]
  omega
section
open PySem.Calls PyProof.Rows
variable {prog : Program} {w : World} {A : Around} {E : Value → Shared → Prop} {s : Shared} {h0 : Heap} {L D : Addr} {news : List (Addr × Obj)} {vs : List Value} {ns : List Int} {n : Nat} {k : Int} {t : Tok} {Q : Value → Shared → Prop}
theorem ints_ok : ∀ {vs : List Value} {ns : List Int}, IntsAre vs ns → kf_ints vs = true
  | _, _, .nil => rfl
  | _, _, .cons _ _ h => by
    unfold kf_ints
    exact ints_ok h
theorem ints_at : ∀ {vs : List Value} {ns : List Int}, IntsAre vs ns → k ∈ ns → ∃ j : Nat, kf_at k vs = some j ∧ ns[j]? = some k
  | _, _, .nil, hk => absurd hk List.not_mem_nil
  | _, _, .cons (vs := vr) (ns := nr) i u h, hk => by
    unfold kf_at
    by_cases e : i = k
    · refine ⟨0, ?_, ?_⟩
      · have : isInt k (.int i u) = true := by simp [isInt, e]
        rw [this]
        rfl
      · rw [e]
        rfl
    · have g : isInt k (.int i u) = false := by simp [isInt, e]
      have hk' : k ∈ nr := by
        rcases List.mem_cons.mp hk with q | q
        · exact absurd q.symm e
        · exact q
      obtain ⟨j, a, b⟩ := ints_at h hk'
      refine ⟨j + 1, ?_, b⟩
      rw [g, a]
      rfl
theorem step_index (N : News h0 L s.heap news) (hm : (D, listOf vs.toArray n) ∈ news) (hi : IntsAre vs ns) (hk : k ∈ ns) (hz : ns.length ≤ 64)
    (h : ∀ j : Nat, ns[j]? = some k → j < ns.length → j < 64 → Q (.int (j : Int) s.toks) { s with toks := s.toks + 1 }) :
    wpAny (model prog w) A (call (.builtin "list.index") [.ref D, .int k t]) Q E s := by
  obtain ⟨j, a, b⟩ := ints_at hi hk
  have e : vs.toArray.toList = vs := rfl
  have hl := hi.length
  refine kf_index N hm (ints_ok hi) a rfl ?_ (h j b (List.getElem?_eq_some_iff.mp b).1 (by have := (List.getElem?_eq_some_iff.mp b).1; omega))
  rw [e, sizeLine_eq]
  omega
end
end My
open PySem PySem.W PyProof.Rows
local macro_rules | `(tactic| walk_at "call builtin:min") => `(tactic| (k_here; (with_reducible show wpAny _ _ (call (Value.builtin _) [Value.ref _]) _ _ _); (with_unfolding_all refine' kso_min ?k1 ?k2 ?k3 ?k4 ?k5 ?k6 ?_; (case k1 => k_asm); (case k2 => k_asm); (case k3 => kso_list); (case k4 => l_ints); (case k5 => (exact My.free_pos (by assumption) (by assumption) (by assumption))); (case k6 => with_unfolding_all rfl); k_whole); intro h' M' t' k' F' N' a' b'; (have kSame := My.same_len (by assumption) (by assumption) (by assumption))))
local macro_rules | `(tactic| walk_at "call builtin:list.index") => `(tactic| (k_here; (with_reducible show wpAny _ _ (call (Value.builtin _) [Value.ref _, Value.int _ _]) _ _ _); k_dflt (refine' My.step_index ?N ?m ?i ?e ?z ?_; (case N => k_asm); (case m => k_mem); (case i => l_ints); (case e => assumption); (case z => exact My.free_few (by assumption) (by assumption) (by assumption)); k_whole); intro j' e' l' m'))
set_option maxRecDepth 100000 in
set_option maxHeartbeats 8000000 in
theorem PySem.Challenge.cw_waiting_s05_wl_run_holds : PySem.Challenge.rw_waiting_s05_wl_run.Holds := by
  k_with "state" => first
    | exact My.ord_start
    | exact My.ord_turn (by assumption) (by assumption) (by assumption)
    | exact My.turn (by assumption) (by assumption) (by assumption) (by assumption) (by assumption) (by assumption) (by assumption) (by assumption) (by assumption) (by omega)
    | (refine ⟨?_, ?_, My.run_start⟩ <;> first | omega | (simp; done) | (simp; omega))
  k_with "pyIter ref" => (k_of "moment" => k_state (fun pre before => My.Ord pre before) "before")
  k_with "pyIter ref" => (k_of "i" => k_state (fun pre free answer => free.length = (My.argC (by assumption)).toNat ∧ answer.length = pre.length + 1 ∧ My.Run (My.argC (by assumption)) (My.argL (by assumption)) (My.argN (by assumption)) pre.length free answer) "free" "answer")
  open_ks with [.int 1, .list [], .list []]
  all_goals first
    | exact My.close_far hpre (by omega)
    | exact My.close_many hpre (by assumption) (by assumption)
    | exact My.close_low hpre (by assumption) (by assumption) (by assumption) (by assumption) (by assumption)
    | exact My.close_late hpre (by assumption) (by assumption) (by assumption) (by assumption) (by assumption)
    | exact My.close_run hpre (by assumption) (by assumption) (by assumption) (by assumption) (by assumption)
