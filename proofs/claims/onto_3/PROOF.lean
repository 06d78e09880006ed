import PyProof.Rows.All
import Wide.All
import OpenK.AllK
import Wide.FinOn
import Open.SpecLaws
import KE.OsGo
import HandS.ForSpec
import HandS.Comp
import HandS.Iter
import HandS.Walk
import HandS.Deep
import PySem.Challenge.RW_mapcounts_s07_onto
set_option Elab.async false
set_option linter.all false
set_option maxRecDepth 100000
set_option maxHeartbeats 2000000
namespace Mc
/-! ### sums over places -/
def S (n : Nat) (f : Nat → Nat) : Nat := ((List.range n).map f).sum
theorem S_zero (f : Nat → Nat) : S 0 f = 0 := rfl
theorem S_succ (n : Nat) (f : Nat → Nat) : S (n + 1) f = S n f + f n := by
  unfold S
  rw [List.range_succ, List.map_append, List.sum_append]
  simp
theorem S_congr {n : Nat} {f g : Nat → Nat} (h : ∀ i, i < n → f i = g i) : S n f = S n g := by
  induction n with
  | zero => rfl
  | succ n ih =>
    rw [S_succ, S_succ, ih fun i hi => h i (by omega), h n (by omega)]
theorem S_add (n : Nat) (f g : Nat → Nat) : S n (fun i => f i + g i) = S n f + S n g := by
  induction n with
  | zero => rfl
  | succ n ih =>
    rw [S_succ, S_succ, S_succ, ih]
    omega
theorem S_const0 (n : Nat) : S n (fun _ => 0) = 0 := by
  induction n with
  | zero => rfl
  | succ n ih => rw [S_succ, ih]
theorem S_comm (n m : Nat) (f : Nat → Nat → Nat) : S n (fun i => S m (fun j => f i j)) = S m (fun j => S n (fun i => f i j)) := by
  induction n with
  | zero =>
    rw [S_zero]
    exact (S_const0 m).symm
  | succ n ih =>
    rw [S_succ, ih, ← S_add]
    exact S_congr fun j _ => (S_succ n _).symm
theorem S_point {n a : Nat} (x : Nat → Nat) (h : a < n) : S n (fun i => if i = a then x i else 0) = x a := by
  induction n with
  | zero => omega
  | succ n ih =>
    rw [S_succ]
    by_cases e : n = a
    · subst e
      rw [if_pos rfl]
      have z : S n (fun i => if i = n then x i else 0) = 0 := by
        exact (S_congr (g := fun _ => 0) fun i hi => if_neg (show ¬ i = n by omega)).trans (S_const0 n)
      rw [z]
      omega
    · rw [if_neg e, ih (by omega)]
      rfl
theorem sum_eq_S (l : List Nat) : l.sum = S l.length (fun i => l.getD i 0) := by
  induction l with
  | nil => rfl
  | cons a r ih =>
    have e : S (r.length + 1) (fun i => (a :: r).getD i 0) = a + S r.length (fun i => r.getD i 0) := by
      unfold S
      rw [List.range_succ_eq_map, List.map_cons, List.map_map, List.sum_cons]
      rfl
    show (a :: r).sum = S (r.length + 1) (fun i => (a :: r).getD i 0)
    rw [e, List.sum_cons, ih]
theorem getD_rangeMap {n v : Nat} (f : Nat → Nat) (h : v < n) : ((List.range n).map f).getD v 0 = f v := by
  rw [List.getD_eq_getElem?_getD, List.getElem?_map, List.getElem?_range h]
  rfl
/-! ### a graph as told -/
def pairs : List Nat → List (Nat × Nat)
  | u :: v :: r => (u, v) :: pairs r
  | _ => []
def rank (n : Nat) (p : Nat × Nat) : Nat := p.1 * n + p.2
def risesFrom (n : Nat) : Int → List (Nat × Nat) → Bool
  | _, [] => true
  | last, p :: r => if n ≤ p.1 ∨ n ≤ p.2 then false else if (rank n p : Int) ≤ last then false else risesFrom n (rank n p : Nat) r
def isGraph (n : Nat) (l : List Nat) : Bool := if n < 1 ∨ 5 < n ∨ l.length % 2 = 1 then false else risesFrom n (-1) (pairs l)
theorem rank_lt {n : Nat} {u v u' v' : Nat} (hv : v < n) (hv' : v' < n) : (u < u' ∨ (u = u' ∧ v < v')) ↔ rank n (u, v) < rank n (u', v') := by
  unfold rank
  dsimp only
  constructor
  · rintro (h | ⟨rfl, h⟩)
    · have := Nat.mul_le_mul_right n (show u + 1 ≤ u' from h)
      rw [Nat.succ_mul] at this
      omega
    · omega
  · intro h
    by_cases e : u < u'
    · exact .inl e
    · by_cases e2 : u = u'
      · subst e2
        exact .inr ⟨rfl, by omega⟩
      · have := Nat.mul_le_mul_right n (show u' + 1 ≤ u by omega)
        rw [Nat.succ_mul] at this
        omega
theorem pairsOf_is {n : Nat} : ∀ {l : List Nat} {r : List (Nat × Nat)}, Ks547.pairsOf n l = some r → r = pairs l ∧ l.length % 2 = 0
  | [], r, h => by
    simp only [Ks547.pairsOf] at h
    cases h
    exact ⟨rfl, rfl⟩
  | [_], r, h => by
    simp only [Ks547.pairsOf] at h
    cases h
  | u :: v :: l, r, h => by
    unfold Ks547.pairsOf at h
    split at h
    · cases h
    · split at h
      · cases h
      · rename_i r' e
        obtain ⟨h1, h2⟩ := pairsOf_is e
        have h3 : (u :: v :: l).length % 2 = 0 := by
          simp only [List.length_cons]
          omega
        split at h
        · cases h
          refine ⟨?_, h3⟩
          show [(u, v)] = (u, v) :: pairs l
          rw [← h1]
        · rename_i p q
          split at h
          · cases h
            refine ⟨?_, h3⟩
            show (u, v) :: p :: q = (u, v) :: pairs l
            rw [← h1]
          · cases h
theorem pairsOf_cons (n u v : Nat) (l : List Nat) : Ks547.pairsOf n (u :: v :: l) = (if n ≤ u ∨ n ≤ v then none else match Ks547.pairsOf n l with
    | none => none
    | some r => match r with
      | [] => some [(u, v)]
      | p :: _ => if u < p.1 ∨ (u = p.1 ∧ v < p.2) then some ((u, v) :: r) else none) := by
  rw [Ks547.pairsOf]
  rfl
theorem rises_is {n : Nat} : ∀ (l : List Nat) (last : Int), -1 ≤ last → l.length % 2 = 0 → risesFrom n last (pairs l) = (match Ks547.pairsOf n l with | none => false | some [] => true | some (p :: _) => decide (last < (rank n p : Int)))
  | [], last, _, _ => by
    simp only [Ks547.pairsOf]
    rfl
  | [_], _, _, h => by
    simp at h
  | u :: v :: l, last, hl, h => by
    have hev : l.length % 2 = 0 := by
      simp only [List.length_cons] at h
      omega
    have ih := rises_is (n := n) l (rank n (u, v) : Nat) (by omega) hev
    show (if n ≤ u ∨ n ≤ v then false else if (rank n (u, v) : Int) ≤ last then false else risesFrom n (rank n (u, v) : Nat) (pairs l)) = _
    rw [ih, pairsOf_cons]
    by_cases c : n ≤ u ∨ n ≤ v
    · rw [if_pos c, if_pos c]
    · rw [if_neg c, if_neg c]
      cases e : Ks547.pairsOf n l with
      | none =>
        dsimp only
        split <;> rfl
      | some r =>
        cases r with
        | nil =>
          dsimp only
          by_cases d : (rank n (u, v) : Int) ≤ last
          · rw [if_pos d, decide_eq_false (by omega)]
          · rw [if_neg d, decide_eq_true (by omega)]
        | cons p q =>
          dsimp only
          obtain ⟨pu, pv⟩ := p
          have hp : pu < n ∧ pv < n := by
            have := (pairsOf_is e).1
            match l, e with
            | a :: b :: l', e =>
              have e' := e
              unfold Ks547.pairsOf at e'
              split at e'
              · cases e'
              · rename_i hc
                simp only [pairs, List.cons.injEq, Prod.mk.injEq] at this
                omega
            | [], e => simp [Ks547.pairsOf] at e
            | [_], e => simp [Ks547.pairsOf] at e
          have hlex := rank_lt (n := n) (u := u) (v := v) (u' := pu) (v' := pv) (by omega) hp.2
          by_cases d : (rank n (u, v) : Int) ≤ last
          · rw [if_pos d]
            split
            · rfl
            · rename_i heq
              split at heq <;> cases heq
            · rename_i heq
              split at heq
              · cases heq
                exact (decide_eq_false (by omega)).symm
              · cases heq
          · rw [if_neg d]
            by_cases k : u < pu ∨ (u = pu ∧ v < pv)
            · rw [if_pos k]
              have := hlex.mp k
              show decide _ = decide _
              rw [decide_eq_true (by omega), decide_eq_true (by omega)]
            · rw [if_neg k]
              have : ¬ rank n (u, v) < rank n (pu, pv) := fun z => k (hlex.mpr z)
              show decide _ = false
              rw [decide_eq_false (by omega)]
theorem graphOf_is (n : Nat) (l : List Nat) : Ks547.graphOf n l = if isGraph n l = true then some ⟨n, pairs l⟩ else none := by
  unfold Ks547.graphOf isGraph Ks547.PLACES
  by_cases c : n < 1 ∨ 5 < n
  · rw [if_pos c, if_pos (show n < 1 ∨ 5 < n ∨ l.length % 2 = 1 by omega), if_neg Bool.false_ne_true]
  · rw [if_neg c]
    by_cases o : l.length % 2 = 1
    · rw [if_pos (show n < 1 ∨ 5 < n ∨ l.length % 2 = 1 by omega), if_neg Bool.false_ne_true]
      cases e : Ks547.pairsOf n l with
      | none => rfl
      | some r =>
        have := (pairsOf_is e).2
        omega
    · rw [if_neg (show ¬ (n < 1 ∨ 5 < n ∨ l.length % 2 = 1) by omega), rises_is l (-1) (by omega) (by omega)]
      cases e : Ks547.pairsOf n l with
      | none =>
        dsimp only
        rw [if_neg Bool.false_ne_true]
        rfl
      | some r =>
        have h1 := (pairsOf_is e).1
        cases r with
        | nil =>
          dsimp only
          rw [if_pos rfl, ← h1]
          rfl
        | cons p q =>
          dsimp only
          rw [if_pos (decide_eq_true (by omega)), ← h1]
          rfl
/-! ### what a graph's arrows are -/
structure Good (n : Nat) (ps : List (Nat × Nat)) : Prop where
  inn : ∀ p ∈ ps, p.1 < n ∧ p.2 < n
  nd : ps.Nodup
theorem rises_good {n : Nat} : ∀ {ps : List (Nat × Nat)} {last : Int}, risesFrom n last ps = true → Good n ps ∧ ∀ p ∈ ps, last < (rank n p : Int)
  | [], _, _ => ⟨⟨by simp, List.nodup_nil⟩, by simp⟩
  | p :: r, last, h => by
    unfold risesFrom at h
    split at h
    · cases h
    · rename_i c
      split at h
      · cases h
      · rename_i d
        obtain ⟨g, lt⟩ := rises_good h
        refine ⟨⟨fun q hq => ?_, List.nodup_cons.mpr ⟨fun m => ?_, g.nd⟩⟩, fun q hq => ?_⟩
        · rcases List.mem_cons.mp hq with e | m
          · subst e
            omega
          · exact g.inn q m
        · have := lt p m
          omega
        · rcases List.mem_cons.mp hq with e | m
          · subst e
            omega
          · have := lt q m
            omega
theorem isGraph_good {n : Nat} {l : List Nat} (h : isGraph n l = true) : 1 ≤ n ∧ n ≤ 5 ∧ l.length % 2 = 0 ∧ Good n (pairs l) := by
  unfold isGraph at h
  split at h
  · cases h
  · exact ⟨by omega, by omega, by omega, (rises_good h).1⟩
def nats (l : List Int) : List Nat := l.map Int.toNat
end Mc
namespace Mc
/-! ### maps -/
def tab (n : Nat) (ps : List (Nat × Nat)) : List (List Bool) := (List.range n).map fun u => (List.range n).map fun v => ps.contains (u, v)
def mapOk (ps : List (Nat × Nat)) (T : List (List Bool)) (f : List Nat) : Bool := ps.all fun p => (T.getD (f.getD p.1 0) []).getD (f.getD p.2 0) false
def cnt (ps : List (Nat × Nat)) (L : List (List Nat)) (T : List (List Bool)) : Nat := (L.filter (mapOk ps T)).length
def wider (m : Nat) (L : List (List Nat)) : List (List Nat) := L.flatMap fun r => (List.range m).map fun x => r ++ [x]
def choices (m : Nat) : Nat → List (List Nat)
  | 0 => [[]]
  | k + 1 => wider m (choices m k)
theorem flatMap_flatMap {A B C : Type} (f : A → List B) (g : B → List C) : ∀ l : List A, (l.flatMap f).flatMap g = l.flatMap fun x => (f x).flatMap g
  | [] => rfl
  | x :: r => by
    rw [List.flatMap_cons, List.flatMap_append, flatMap_flatMap f g r, List.flatMap_cons]
theorem flatMap_congr {A B : Type} {f g : A → List B} : ∀ {l : List A}, (∀ x ∈ l, f x = g x) → l.flatMap f = l.flatMap g
  | [], _ => rfl
  | x :: r, h => by
    rw [List.flatMap_cons, List.flatMap_cons, h x (List.mem_cons_self ..), flatMap_congr fun y hy => h y (List.mem_cons_of_mem _ hy)]
theorem flatMap_map_pre {m x : Nat} : ∀ l : List (List Nat), (l.map fun r => x :: r).flatMap (fun r => (List.range m).map fun y => r ++ [y]) = (wider m l).map fun r => x :: r
  | [] => rfl
  | r :: t => by
    have ih := flatMap_map_pre (m := m) (x := x) t
    unfold wider at ih ⊢
    rw [List.map_cons, List.flatMap_cons, ih, List.flatMap_cons, List.map_append, List.map_map]
    rfl
theorem wider_rows (m : Nat) : ∀ k, wider m (Ks547.rows m k) = Ks547.rows m (k + 1)
  | 0 => by
    show wider m [[]] = (List.range m).flatMap fun x => [[x]]
    unfold wider
    rw [List.flatMap_cons, List.flatMap_nil, List.append_nil]
    show ((List.range m).map fun x => [x]) = _
    induction List.range m with
    | nil => rfl
    | cons a r ih => rw [List.map_cons, List.flatMap_cons, ih]; rfl
  | k + 1 => by
    show ((List.range m).flatMap fun x => (Ks547.rows m k).map fun r => x :: r).flatMap (fun r => (List.range m).map fun x => r ++ [x]) = (List.range m).flatMap fun x => (Ks547.rows m (k + 1)).map fun r => x :: r
    rw [flatMap_flatMap]
    refine flatMap_congr fun x _ => ?_
    rw [flatMap_map_pre, wider_rows m k]
theorem choices_rows (m : Nat) : ∀ k, choices m k = Ks547.rows m k
  | 0 => rfl
  | k + 1 => by
    show wider m (choices m k) = _
    rw [choices_rows m k, wider_rows]
theorem rows_mem {m : Nat} : ∀ {k : Nat} {f : List Nat}, f ∈ Ks547.rows m k → f.length = k ∧ ∀ x ∈ f, x < m
  | 0, f, h => by
    have e : f = [] := by simpa [Ks547.rows] using h
    subst e
    exact ⟨rfl, by simp⟩
  | k + 1, f, h => by
    unfold Ks547.rows at h
    obtain ⟨x, hx, hf⟩ := List.mem_flatMap.mp h
    obtain ⟨r, hr, rfl⟩ := List.mem_map.mp hf
    obtain ⟨h1, h2⟩ := rows_mem hr
    refine ⟨by rw [List.length_cons, h1], fun y hy => ?_⟩
    rcases List.mem_cons.mp hy with e | e
    · rw [e]
      exact List.mem_range.mp hx
    · exact h2 y e
theorem wider_len (m : Nat) : ∀ L : List (List Nat), (wider m L).length = L.length * m
  | [] => by simp [wider]
  | r :: t => by
    have ih := wider_len m t
    unfold wider at ih ⊢
    rw [List.flatMap_cons, List.length_append, ih, List.length_map, List.length_range, List.length_cons, Nat.succ_mul]
    omega
theorem choices_len (m : Nat) : ∀ k, (choices m k).length = m ^ k
  | 0 => rfl
  | k + 1 => by
    show (wider m (choices m k)).length = _
    rw [wider_len, choices_len m k, Nat.pow_succ]
theorem choices_mem {m k : Nat} {f : List Nat} (h : f ∈ choices m k) : f.length = k ∧ ∀ x ∈ f, x < m := by
  rw [choices_rows] at h
  exact rows_mem h
theorem getD_lt {f : List Nat} {m i : Nat} (h : ∀ x ∈ f, x < m) (hi : i < f.length) : f.getD i 0 < m := by
  rw [List.getD_eq_getElem?_getD, List.getElem?_eq_getElem hi]
  exact h _ (List.getElem_mem hi)
theorem tab_row {n u : Nat} {ps : List (Nat × Nat)} (h : u < n) : (tab n ps)[u]? = some ((List.range n).map fun v => ps.contains (u, v)) := by
  unfold tab
  rw [List.getElem?_map, List.getElem?_range h]
  rfl
theorem tab_at {n u v : Nat} {ps : List (Nat × Nat)} (hu : u < n) (hv : v < n) : ((tab n ps).getD u []).getD v false = ps.contains (u, v) := by
  have e : (tab n ps).getD u [] = (List.range n).map fun v => ps.contains (u, v) := by
    rw [List.getD_eq_getElem?_getD, tab_row hu]
    rfl
  rw [e, List.getD_eq_getElem?_getD, List.getElem?_map, List.getElem?_range hv]
  rfl
theorem tab_len (n : Nat) (ps : List (Nat × Nat)) : (tab n ps).length = n := by
  unfold tab
  rw [List.length_map, List.length_range]
theorem arrows_in {k a : Nat} {p : Nat × Nat} (h : p ∈ (Ks550.graphAt k a).arrows) : p.1 < k ∧ p.2 < k := by
  unfold Ks550.graphAt at h
  obtain ⟨i, hi, hf⟩ := List.mem_filterMap.mp h
  have hi := List.mem_range.mp hi
  split at hf
  · cases hf
    have hk : 0 < k := by
      cases k with
      | zero => omega
      | succ k => omega
    exact ⟨Nat.div_lt_of_lt_mul hi, Nat.mod_lt _ hk⟩
  · cases hf
theorem count_is (k a n : Nat) (ps : List (Nat × Nat)) : Ks550.count (Ks550.graphAt k a) ⟨n, ps⟩ = cnt (Ks550.graphAt k a).arrows (choices n k) (tab n ps) := by
  unfold Ks550.count Ks547.maps cnt
  rw [choices_rows]
  show ((Ks547.rows n k).filter (Ks547.keeps (Ks550.graphAt k a) ⟨n, ps⟩)).length = _
  congr 1
  refine List.filter_congr fun f hf => ?_
  obtain ⟨h1, h2⟩ := rows_mem hf
  unfold Ks547.keeps mapOk
  have e1 : (f.length == (Ks550.graphAt k a).n) = true := by
    rw [beq_iff_eq]
    exact h1
  have e2 : (f.all fun x => decide (x < n)) = true := List.all_eq_true.mpr fun x hx => decide_eq_true (h2 x hx)
  rw [e1]
  show (true && (f.all fun x => decide (x < n)) && _) = _
  rw [e2, Bool.true_and, Bool.true_and]
  rw [Bool.eq_iff_iff, List.all_eq_true, List.all_eq_true]
  have key : ∀ p ∈ (Ks550.graphAt k a).arrows, ((tab n ps).getD (f.getD p.1 0) []).getD (f.getD p.2 0) false = Ks547.has ⟨n, ps⟩ (f.getD p.1 0) (f.getD p.2 0) := fun p hp => by
    obtain ⟨b1, b2⟩ := arrows_in hp
    exact tab_at (getD_lt h2 (by omega)) (getD_lt h2 (by omega))
  constructor
  · intro h p hp
    rw [key p hp]
    exact h p hp
  · intro h p hp
    rw [← key p hp]
    exact h p hp
/-! ### a graph by its number -/
def upTo (k a j : Nat) : List (Nat × Nat) := (List.range j).filterMap fun i => if a.testBit i then some (i / k, i % k) else none
theorem upTo_all (k a : Nat) : upTo k a (k * k) = (Ks550.graphAt k a).arrows := rfl
theorem upTo_succ (k a j : Nat) : upTo k a (j + 1) = upTo k a j ++ if a.testBit j then [(j / k, j % k)] else [] := by
  unfold upTo
  rw [List.range_succ, List.filterMap_append]
  congr 1
  by_cases h : a.testBit j = true
  · simp [h]
  · simp [h]
theorem upTo_len (k a j : Nat) : (upTo k a j).length ≤ j := by
  unfold upTo
  exact Nat.le_trans (List.length_filterMap_le _ _) (by rw [List.length_range]; exact Nat.le_refl _)
theorem bit_at (a j : Nat) : a.testBit j = decide (a / 2 ^ j % 2 = 1) := by
  rw [Nat.testBit_eq_decide_div_mod_eq]
/-! ### the first that tells them apart -/
theorem find_range {p : Nat → Bool} {n i : Nat} (hi : i < n) (h : ∀ j, j < i → p j = false) (hp : p i = true) : (List.range n).find? p = some i := by
  induction n with
  | zero => omega
  | succ n ih =>
    rw [List.range_succ, List.find?_append]
    by_cases e : i < n
    · rw [ih e]
      rfl
    · have e2 : i = n := by omega
      subst e2
      have z : (List.range i).find? p = none := by
        rw [List.find?_eq_none]
        intro x hx
        rw [h x (List.mem_range.mp hx)]
        exact Bool.false_ne_true
      rw [z]
      simp [hp]
theorem find_none {p : Nat → Bool} {n : Nat} (h : ∀ j, j < n → p j = false) : (List.range n).find? p = none := by
  rw [List.find?_eq_none]
  intro x hx
  rw [h x (List.mem_range.mp hx)]
  exact Bool.false_ne_true
theorem some_range {A : Type} {F : Nat → Option A} {n i : Nat} {r : A} (hi : i < n) (h : ∀ j, j < i → F j = none) (hp : F i = some r) : (List.range n).findSome? F = some r := by
  induction n with
  | zero => omega
  | succ n ih =>
    rw [List.range_succ, List.findSome?_append]
    by_cases e : i < n
    · rw [ih e]
      rfl
    · have e2 : i = n := by omega
      subst e2
      have z : (List.range i).findSome? F = none := by
        rw [List.findSome?_eq_none_iff]
        intro x hx
        exact h x (List.mem_range.mp hx)
      rw [z]
      simp [hp]
theorem some_none {A : Type} {F : Nat → Option A} {n : Nat} (h : ∀ j, j < n → F j = none) : (List.range n).findSome? F = none := by
  rw [List.findSome?_eq_none_iff]
  intro x hx
  exact h x (List.mem_range.mp hx)
/-- how many maps there are from the graph of k places with number a into the one of n places with the arrows ps -/
def inTo (k a n : Nat) (ps : List (Nat × Nat)) : Nat := cnt (Ks550.graphAt k a).arrows (choices n k) (tab n ps)
def apartO (k n : Nat) (ps : List (Nat × Nat)) (m : Nat) (qs : List (Nat × Nat)) : Option (List Nat) :=
  ((List.range (2 ^ (k * k))).find? fun a => inTo k a n ps != inTo k a m qs).map fun a => [k, a, inTo k a n ps, inTo k a m qs]
def differAns (n m : Nat) (l r : List Nat) : List Int :=
  if isGraph n l = true ∧ isGraph m r = true then
    (if 3 < max n m then [-75] else match (List.range (max n m)).findSome? fun i => apartO (i + 1) n (pairs l) m (pairs r) with
      | none => [-6]
      | some x => x.map Int.ofNat)
  else [-22]
theorem findSome_map {A B C : Type} (f : A → Option B) (g : B → C) : ∀ l : List A, (l.findSome? f).map g = l.findSome? fun x => (f x).map g
  | [] => rfl
  | x :: r => by
    rw [List.findSome?_cons, List.findSome?_cons]
    cases e : f x with
    | none =>
      dsimp only [Option.map_none]
      exact findSome_map f g r
    | some y => rfl
theorem differ_due (n m : Int) (first second : List Int) : PyKs550.differ n m first second = differAns n.toNat m.toNat (nats first) (nats second) := by
  show Ks550Neutral.out (Ks550.answer (.differ n.toNat m.toNat (nats first) (nats second))) = _
  generalize n.toNat = n
  generalize m.toNat = m
  generalize nats first = l
  generalize nats second = r
  unfold Ks550.answer Ks547.two Ks547.graph differAns
  dsimp only
  rw [graphOf_is, graphOf_is]
  by_cases c : isGraph n l = true
  · rw [if_pos c]
    dsimp only
    by_cases d : isGraph m r = true
    · rw [if_pos d, if_pos (And.intro c d)]
      dsimp only
      by_cases e : Ks550.FEW < n ∨ Ks550.FEW < m
      · have e' : 3 < max n m := by
          have : (3 : Nat) < n ∨ (3 : Nat) < m := e
          omega
        rw [if_pos e, if_pos e']
        rfl
      · have e' : ¬ 3 < max n m := by
          have : ¬ ((3 : Nat) < n ∨ (3 : Nat) < m) := e
          omega
        rw [if_neg e, if_neg e']
        have key : ((Ks550.differ ⟨n, pairs l⟩ ⟨m, pairs r⟩ (max n m)).map fun (p : Nat × Nat) => [p.1, p.2, Ks550.count (Ks550.graphAt p.1 p.2) ⟨n, pairs l⟩, Ks550.count (Ks550.graphAt p.1 p.2) ⟨m, pairs r⟩])
            = (List.range (max n m)).findSome? fun i => apartO (i + 1) n (pairs l) m (pairs r) := by
          unfold Ks550.differ
          rw [findSome_map]
          congr 1
          funext i
          unfold apartO
          rw [Option.map_map]
          unfold inTo
          simp only [count_is]
          rfl
        rw [← key]
        cases Ks550.differ ⟨n, pairs l⟩ ⟨m, pairs r⟩ (max n m) with
        | none => rfl
        | some p => rfl
    · rw [if_neg d, if_neg (show ¬ (isGraph n l = true ∧ isGraph m r = true) from fun z => d z.2)]
      rfl
  · rw [if_neg c, if_neg (show ¬ (isGraph n l = true ∧ isGraph m r = true) from fun z => c z.1)]
    rfl
end Mc
namespace Mc
/-! ### number, counts, onto: what is due, in the words of the earlier parts -/
def numberOf (n : Nat) (ps : List (Nat × Nat)) : Nat := (ps.map fun p => 2 ^ rank n p).sum
def numberAns (n : Nat) (l : List Nat) : List Int := if isGraph n l = true then [(numberOf n (pairs l) : Nat)] else [-22]
theorem number_due (n : Int) (first : List Int) : PyKs550.number n first = numberAns n.toNat (nats first) := by
  show Ks550Neutral.out (Ks550.answer (.number n.toNat (nats first))) = _
  unfold Ks550.answer Ks547.graph numberAns
  dsimp only
  rw [graphOf_is]
  by_cases c : isGraph n.toNat (nats first) = true
  · rw [if_pos c, if_pos c]
    rfl
  · rw [if_neg c, if_neg c]
    rfl
def countsAns (n k : Nat) (l : List Nat) : List Int := if isGraph n l = true ∧ 1 ≤ k ∧ k ≤ 2 then (2 ^ (k * k) :: (List.range (2 ^ (k * k))).map fun a => inTo k a n (pairs l)).map Int.ofNat else [-22]
theorem counts_due (n k : Int) (first : List Int) : PyKs550.counts n k first = countsAns n.toNat k.toNat (nats first) := by
  show Ks550Neutral.out (Ks550.answer (.counts n.toNat k.toNat (nats first))) = _
  generalize n.toNat = n
  generalize k.toNat = k
  generalize nats first = l
  unfold Ks550.answer Ks547.graph countsAns
  dsimp only
  rw [graphOf_is]
  by_cases c : isGraph n l = true
  · rw [if_pos c]
    dsimp only
    by_cases d : k < 1 ∨ 2 < k
    · rw [if_pos d, if_neg (fun z => by have := z.2; omega)]
      rfl
    · rw [if_neg d, if_pos ⟨c, by omega, by omega⟩]
      have e : ((List.range (2 ^ (k * k))).map fun a => Ks550.count (Ks550.graphAt k a) ⟨n, pairs l⟩) = (List.range (2 ^ (k * k))).map fun a => inTo k a n (pairs l) := List.map_congr_left fun a _ => count_is k a n (pairs l)
      rw [e]
      show ((((List.range (2 ^ (k * k))).map fun a => inTo k a n (pairs l)).length : Nat) : Int) :: _ = _
      rw [List.length_map, List.length_range]
      rfl
  · rw [if_neg c, if_neg fun z => c z.1]
    rfl
/-- maps of a graph whose arrows lie within its places, as the program's tables say them -/
theorem keeps_is {n m : Nat} {ps qs : List (Nat × Nat)} (g : ∀ p ∈ ps, p.1 < n ∧ p.2 < n) {f : List Nat} (hf : f ∈ choices m n) : Ks547.keeps ⟨n, ps⟩ ⟨m, qs⟩ f = mapOk ps (tab m qs) f := by
  obtain ⟨h1, h2⟩ := choices_mem hf
  unfold Ks547.keeps mapOk
  have e1 : (f.length == n) = true := by
    rw [beq_iff_eq]
    exact h1
  have e2 : (f.all fun x => decide (x < m)) = true := List.all_eq_true.mpr fun x hx => decide_eq_true (h2 x hx)
  show ((f.length == n) && (f.all fun x => decide (x < m)) && _) = _
  rw [e1, e2, Bool.true_and, Bool.true_and]
  rw [Bool.eq_iff_iff, List.all_eq_true, List.all_eq_true]
  have key : ∀ p ∈ ps, ((tab m qs).getD (f.getD p.1 0) []).getD (f.getD p.2 0) false = Ks547.has ⟨m, qs⟩ (f.getD p.1 0) (f.getD p.2 0) := fun p hp => by
    obtain ⟨b1, b2⟩ := g p hp
    exact tab_at (getD_lt h2 (by omega)) (getD_lt h2 (by omega))
  constructor
  · intro h p hp
    rw [key p hp]
    exact h p hp
  · intro h p hp
    rw [← key p hp]
    exact h p hp
def hitsAll (m : Nat) (f : List Nat) : Bool := (List.range m).all fun x => f.contains x
def ontoN (n m : Nat) (ps qs : List (Nat × Nat)) : Nat := ((choices m n).filter fun f => mapOk ps (tab m qs) f && hitsAll m f).length
theorem onto_is {n m : Nat} {ps qs : List (Nat × Nat)} (g : ∀ p ∈ ps, p.1 < n ∧ p.2 < n) : Ks550.onto ⟨n, ps⟩ ⟨m, qs⟩ = ontoN n m ps qs := by
  unfold Ks550.onto Ks547.maps ontoN
  show (((Ks547.rows m n).filter (Ks547.keeps ⟨n, ps⟩ ⟨m, qs⟩)).filter (Ks547.onto ⟨m, qs⟩)).length = _
  rw [← choices_rows, List.filter_filter]
  congr 1
  refine List.filter_congr fun f hf => ?_
  rw [keeps_is g hf, Bool.and_comm]
  rfl
def ontoAns (n m : Nat) (l r : List Nat) : List Int := if isGraph n l = true ∧ isGraph m r = true then [(ontoN n m (pairs l) (pairs r) : Nat)] else [-22]
theorem onto_due (n m : Int) (first second : List Int) : PyKs550.onto n m first second = ontoAns n.toNat m.toNat (nats first) (nats second) := by
  show Ks550Neutral.out (Ks550.answer (.onto n.toNat m.toNat (nats first) (nats second))) = _
  generalize n.toNat = n
  generalize m.toNat = m
  generalize nats first = l
  generalize nats second = r
  unfold Ks550.answer Ks547.two Ks547.graph ontoAns
  dsimp only
  rw [graphOf_is, graphOf_is]
  by_cases c : isGraph n l = true
  · rw [if_pos c]
    dsimp only
    by_cases d : isGraph m r = true
    · rw [if_pos d, if_pos (And.intro c d)]
      dsimp only
      rw [onto_is (isGraph_good c).2.2.2.inn]
      rfl
    · rw [if_neg d, if_neg (show ¬ (isGraph n l = true ∧ isGraph m r = true) from fun z => d z.2)]
      rfl
  · rw [if_neg c, if_neg (show ¬ (isGraph n l = true ∧ isGraph m r = true) from fun z => c z.1)]
    rfl
end Mc
namespace Mc
/-! ### a graph's number, place by place -/
/-- what the arrows of the first j ranks count -/
def numTo (n : Nat) (ps : List (Nat × Nat)) (j : Nat) : Nat := S j fun i => if ps.contains (i / n, i % n) then 2 ^ i else 0
theorem rank_is {n i : Nat} {p : Nat × Nat} (h : p.2 < n) : (i / n, i % n) = p ↔ i = rank n p := by
  obtain ⟨u, v⟩ := p
  have h : v < n := h
  unfold rank
  dsimp only
  rw [Prod.mk.injEq]
  constructor
  · rintro ⟨h1, h2⟩
    have := Nat.div_add_mod i n
    rw [h1, h2, Nat.mul_comm] at this
    exact this.symm
  · intro e
    have e1 : (u * n + v) / n = u := by
      rw [Nat.mul_comm, Nat.mul_add_div (by omega), Nat.div_eq_of_lt h]
      rfl
    have e2 : (u * n + v) % n = v := by
      rw [Nat.mul_comm, Nat.mul_add_mod, Nat.mod_eq_of_lt h]
    rw [e, e1, e2]
    exact ⟨rfl, rfl⟩
theorem rank_in {n : Nat} {p : Nat × Nat} (h : p.1 < n ∧ p.2 < n) : rank n p < n * n := by
  have := Nat.mul_le_mul_right n (show p.1 + 1 ≤ n from h.1)
  rw [Nat.succ_mul] at this
  unfold rank
  omega
theorem numTo_all {n : Nat} : ∀ {ps : List (Nat × Nat)}, Good n ps → numTo n ps (n * n) = numberOf n ps
  | [], _ => by
    show S (n * n) (fun _ => 0) = 0
    exact S_const0 _
  | p :: r, g => by
    have g2 : Good n r := ⟨fun q hq => g.inn q (List.mem_cons_of_mem _ hq), (List.nodup_cons.mp g.nd).2⟩
    have hp := g.inn p (List.mem_cons_self ..)
    have ih := numTo_all g2
    have hx : p ∉ r := (List.nodup_cons.mp g.nd).1
    have e : numTo n (p :: r) (n * n) = S (n * n) fun i => (if i = rank n p then 2 ^ i else 0) + (if r.contains (i / n, i % n) then 2 ^ i else 0) := by
      refine S_congr fun i hi => ?_
      rw [List.contains_cons]
      by_cases c : i = rank n p
      · have c2 := (rank_is hp.2).mpr c
        have c3 : r.contains p = false := by
          rw [List.contains_eq_mem]
          exact decide_eq_false hx
        rw [c2, c3, beq_self_eq_true, if_pos c]
        rfl
      · have c2 : ((i / n, i % n) == p) = false := beq_eq_false_iff_ne.mpr fun z => c ((rank_is hp.2).mp z)
        rw [c2, Bool.false_or, if_neg c, Nat.zero_add]
    rw [e, S_add, S_point (fun i => 2 ^ i) (rank_in hp)]
    show 2 ^ rank n p + numTo n r (n * n) = _
    rw [ih]
    unfold numberOf
    rw [List.map_cons, List.sum_cons]
theorem numTo_succ (n : Nat) (ps : List (Nat × Nat)) (j : Nat) : numTo n ps (j + 1) = numTo n ps j + if ps.contains (j / n, j % n) then 2 ^ j else 0 := S_succ _ _
/-! ### onto: the choices that give each place, and of these the maps -/
theorem onto_cnt (n m : Nat) (ps qs : List (Nat × Nat)) : cnt ps ((choices m n).filter (hitsAll m)) (tab m qs) = ontoN n m ps qs := by
  unfold cnt ontoN
  rw [List.filter_filter]
end Mc
namespace Mc
open PySem PySem.Spec PyProof.Rows L2
/-! ### lists by places -/
inductive Al2 {A B : Type} (R : A → B → Prop) : List A → List B → Prop
  | nil : Al2 R [] []
  | cons {x : A} {y : B} {xs : List A} {ys : List B} : R x y → Al2 R xs ys → Al2 R (x :: xs) (y :: ys)
section
variable {A B : Type} {R R' : A → B → Prop}
theorem Al2.len : ∀ {xs : List A} {ys : List B}, Al2 R xs ys → xs.length = ys.length
  | _, _, .nil => rfl
  | _, _, .cons _ t => congrArg (· + 1) t.len
theorem Al2.mono (h : ∀ x y, R x y → R' x y) : ∀ {xs : List A} {ys : List B}, Al2 R xs ys → Al2 R' xs ys
  | _, _, .nil => .nil
  | _, _, .cons a t => .cons (h _ _ a) (t.mono h)
theorem Al2.at : ∀ {xs : List A} {ys : List B} {i : Nat} {x : A}, Al2 R xs ys → xs[i]? = some x → ∃ y, ys[i]? = some y ∧ R x y
  | _, _, _, _, .nil, h => by simp at h
  | _, _, 0, _, .cons a _, h => ⟨_, rfl, by cases h; exact a⟩
  | _, _, i + 1, _, .cons _ t, h => t.at (i := i) h
theorem Al2.at2 : ∀ {xs : List A} {ys : List B} {i : Nat} {y : B}, Al2 R xs ys → ys[i]? = some y → ∃ x, xs[i]? = some x ∧ R x y
  | _, _, _, _, .nil, h => by simp at h
  | _, _, 0, _, .cons a _, h => ⟨_, rfl, by cases h; exact a⟩
  | _, _, i + 1, _, .cons _ t, h => t.at2 (i := i) h
theorem Al2.snoc : ∀ {xs : List A} {ys : List B} {x : A} {y : B}, Al2 R xs ys → R x y → Al2 R (xs ++ [x]) (ys ++ [y])
  | _, _, _, _, .nil, r => .cons r .nil
  | _, _, _, _, .cons a t, r => .cons a (t.snoc r)
end
theorem take_snoc {A : Type} {l : List A} {i : Nat} {x : A} (h : l[i]? = some x) : l.take (i + 1) = l.take i ++ [x] := by
  rw [List.take_add_one, h]
  rfl
/-! ### the heap -/
def vI (n : Nat) : V := .int (n : Int)
def tp (p : Nat × Nat) : List V := [vI p.1, vI p.2]
theorem same_upd {H : Hp} {p : Addr} {o : HO} (h : H p = none) : Same H (upd H p o) := fun b x e => by
  rw [upd_ne (ne_of_none e h)]
  exact e
/-- what was tracked ahead of D's making is as it was -/
theorem same_past {H H' : Hp} {D : Addr} {o : HO} (s : Same H H') (h : H D = none) : Same H (upd H' D o) := fun b x e => by
  rw [upd_ne (ne_of_none e h)]
  exact s b x e
theorem same_t {K : PySem.W.Frag} {H H' : Hp} {a : Addr} {xs : List V} (e : Same H H') (h : SqT K H a xs) : SqT K H' a xs := by
  rcases h with (h | ⟨o, h⟩) | h
  · exact .inl (.inl (e _ _ h))
  · exact .inl (.inr ⟨o, e _ _ h⟩)
  · exact .inr h
/-- a list of pairs -/
def PairsAt (K : PySem.W.Frag) (H : Hp) (a : Addr) (ps : List (Nat × Nat)) : Prop := ∃ ts : List Addr, SqL K H a (ts.map V.ref) ∧ Al2 (fun t p => SqT K H t (tp p)) ts ps
theorem PairsAt.same {K : PySem.W.Frag} {H H' : Hp} {a : Addr} {ps : List (Nat × Nat)} (e : Same H H') (h : PairsAt K H a ps) : PairsAt K H' a ps := by
  obtain ⟨ts, h1, h2⟩ := h
  exact ⟨ts, e.seq h1, h2.mono fun _ _ q => same_t e q⟩
theorem ref_at {ts : List Addr} {i : Nat} {x : V} (h : (ts.map V.ref)[i]? = some x) : ∃ t, ts[i]? = some t ∧ x = .ref t := by
  rw [List.getElem?_map] at h
  cases e : ts[i]? with
  | none =>
    rw [e] at h
    cases h
  | some t =>
    rw [e] at h
    exact ⟨t, rfl, (Option.some.inj h).symm⟩
theorem vI_at {l : List Nat} {i n : Nat} (h : l[i]? = some n) : (l.map vI)[i]? = some (vI n) := by
  rw [List.getElem?_map, h]
  rfl
theorem iteD {c : Prop} [Decidable c] {A B : Prop} (h1 : c → A) (h2 : ¬ c → B) : if decide c = true then A else B := by
  by_cases h : c
  · rw [if_pos (decide_eq_true h)]
    exact h1 h
  · rw [decide_eq_false h, if_neg Bool.false_ne_true]
    exact h2 h
theorem small_line {n : Nat} (h : n ≤ 100000) : n < sizeLine := Nat.lt_of_le_of_lt h (by decide)
theorem sum_nat : ∀ l : List Nat, (l.map Int.ofNat).sum = ((l.sum : Nat) : Int)
  | [] => rfl
  | x :: r => by
    rw [List.map_cons, List.sum_cons, List.sum_cons, sum_nat r, Int.natCast_add]
    rfl
/-! ### pairs -/
theorem pairs_len : ∀ l : List Nat, (pairs l).length = l.length / 2
  | [] => rfl
  | [_] => by
    show 0 = 1 / 2
    rfl
  | u :: v :: r => by
    show (pairs r).length + 1 = (r.length + 1 + 1) / 2
    rw [pairs_len r]
    omega
theorem pairs_get : ∀ {l : List Nat} {i u v : Nat}, l[2 * i]? = some u → l[2 * i + 1]? = some v → (pairs l)[i]? = some (u, v)
  | [], _, _, _, h, _ => by simp at h
  | [_], 0, _, _, _, h => by simp at h
  | [_], i + 1, _, _, h, _ => by
    rw [show 2 * (i + 1) = 2 * i + 1 + 1 by omega] at h
    simp at h
  | a :: b :: r, 0, u, v, h, h2 => by
    have e1 : a = u := Option.some.inj h
    have e2 : b = v := Option.some.inj h2
    rw [← e1, ← e2]
    rfl
  | a :: b :: r, i + 1, u, v, h, h2 => by
    rw [show 2 * (i + 1) = 2 * i + 1 + 1 by omega] at h h2
    exact pairs_get (l := r) (i := i) h h2
theorem rg2 (m : Nat) (hm : m ≤ 30) : RgC 0 ((2 * m : Nat) : Int) 2 m := by
  have h : ∀ m : Fin 31, (Builtin.Range.small 0 ((2 * m.val : Nat) : Int) 2 = true ∧ Builtin.Range.rangeSize 0 ((2 * m.val : Nat) : Int) 2 = m.val) := by decide +kernel
  have := h ⟨m, by omega⟩
  exact ⟨by decide, by decide, this.1, this.2⟩
end Mc
namespace Mc
open PySem PySem.Spec PyProof.Rows L2
/-- a list of lists of numbers, each tracked -/
def RowsAt (H : Hp) (a : Addr) (L : List (List Nat)) : Prop := ∃ ts : List Addr, H a = some (.lst (ts.map V.ref)) ∧ Al2 (fun t r => H t = some (.lst (r.map vI))) ts L
theorem RowsAt.same {H H' : Hp} {a : Addr} {L : List (List Nat)} (e : Same H H') (h : RowsAt H a L) : RowsAt H' a L := by
  obtain ⟨ts, h1, h2⟩ := h
  exact ⟨ts, e _ _ h1, h2.mono fun _ _ q => e _ _ q⟩
/-- a list of lists of truth values -/
def TabAt (K : PySem.W.Frag) (H : Hp) (a : Addr) (T : List (List Bool)) : Prop := ∃ ts : List Addr, SqL K H a (ts.map V.ref) ∧ Al2 (fun t r => SqL K H t (r.map V.bl)) ts T
theorem TabAt.same {K : PySem.W.Frag} {H H' : Hp} {a : Addr} {T : List (List Bool)} (e : Same H H') (h : TabAt K H a T) : TabAt K H' a T := by
  obtain ⟨ts, h1, h2⟩ := h
  exact ⟨ts, e.seq h1, h2.mono fun _ _ q => e.seq q⟩
/-! ### pairs as data -/
def pD (p : Nat × Nat) : PyData := .tuple [.int p.1, .int p.2]
theorem pD_lay (p : Nat × Nat) : (pD p).canLay0 = true := by simp [pD, PyData.canLay0, PyData.canLayAll0]
theorem pD_depth (p : Nat × Nat) : (pD p).depth = 1 := by simp [pD, PyData.depth, PyData.depthAll]
theorem pDs_lay : ∀ ps : List (Nat × Nat), PyData.canLayAll0 (ps.map pD) = true
  | [] => by simp [PyData.canLayAll0]
  | p :: r => by simp [PyData.canLayAll0, pD_lay p, pDs_lay r]
theorem pDs_depth : ∀ ps : List (Nat × Nat), PyData.depthAll (ps.map pD) ≤ 1
  | [] => by simp [PyData.depthAll]
  | p :: r => by
    have h1 := pDs_depth r
    have h2 := pD_depth p
    simp only [List.map_cons, PyData.depthAll]
    omega
theorem pD_shaped (p : Nat × Nat) : SeqAt.shaped (pD p) = true := by
  have h := pD_depth p
  show ((pD p).canLay0 && decide ((pD p).depth ≤ 64)) = true
  rw [Bool.and_eq_true]
  exact ⟨pD_lay p, decide_eq_true (by omega)⟩
theorem pDs_shaped (ps : List (Nat × Nat)) : SeqAt.shaped (.list (ps.map pD)) = true := by
  have h1 := pDs_depth ps
  have h2 : PyData.depth (.list (ps.map pD)) ≤ 64 := by
    simp only [PyData.depth]
    omega
  show (PyData.canLay0 (.list (ps.map pD)) && decide (PyData.depth (.list (ps.map pD)) ≤ 64)) = true
  rw [Bool.and_eq_true]
  exact ⟨by simp only [PyData.canLay0]; exact pDs_lay ps, decide_eq_true h2⟩
theorem pD_eqv (p q : Nat × Nat) : PyData.eqv (pD p) (pD q) = (q == p) := by
  obtain ⟨a, b⟩ := p
  obtain ⟨c, d⟩ := q
  have e : PyData.eqv (pD (a, b)) (pD (c, d)) = (((a : Int) == (c : Int)) && (((b : Int) == (d : Int)) && true)) := by simp only [pD, PyData.eqv, PyData.eqvAll]
  rw [e, Bool.and_true, Bool.eq_iff_iff, Bool.and_eq_true, beq_iff_eq, beq_iff_eq, beq_iff_eq, Prod.mk.injEq]
  omega
theorem pDs_any (ps : List (Nat × Nat)) (q : Nat × Nat) : ((ps.map pD).any fun z => PyData.eqv z (pD q)) = ps.contains q := by
  induction ps with
  | nil => rfl
  | cons p r ih => rw [List.map_cons, List.any_cons, ih, pD_eqv, List.contains_cons]
theorem dp_pair {K : PySem.W.Frag} {H : Hp} {t : Addr} {p : Nat × Nat} (h : SqT K H t (tp p)) : Dp K H (.ref t) (pD p) := .tup h (.cons (.int _) (.cons (.int _) .nil))
theorem dp_pairs {K : PySem.W.Frag} {H : Hp} : ∀ {ts : List Addr} {ps : List (Nat × Nat)}, Al2 (fun t p => SqT K H t (tp p)) ts ps → DpAll K H (ts.map V.ref) (ps.map pD)
  | _, _, .nil => .nil
  | _, _, .cons a t => .cons (dp_pair a) (dp_pairs t)
theorem PairsAt.dp {K : PySem.W.Frag} {H : Hp} {a : Addr} {ps : List (Nat × Nat)} (h : PairsAt K H a ps) : Dp K H (.ref a) (.list (ps.map pD)) := by
  obtain ⟨ts, h1, h2⟩ := h
  exact .lst h1 (dp_pairs h2)
end Mc
namespace Mc
open PySem PySem.Spec PyProof.Rows L2
def topS (i : Nat) : Stmt := PySem.Challenge.pw_mapcounts_s07_onto.main.body.getD i (.Pass ⟨0, 0, 0, 0⟩)
end Mc
namespace Mc
open PySem PySem.Spec PyProof.Rows L2
abbrev sPairs : Stmt := topS 3
theorem scP : FnScope ["flat", "at"] ["flat"] (defScope sPairs) := ⟨rfl, rfl, rfl, by decide +kernel, rfl, by decide +kernel, by decide +kernel⟩
section
variable {P : Program} {w : World} {K : PySem.W.Frag} {mg : Str → Option Value} {base : Heap}
def spPairs (K : PySem.W.Frag) : Sp := fun vs H Q _ => ∃ (a : Addr) (l : List Nat), vs = [.ref a] ∧ SqL K H a (l.map vI) ∧ l.length % 2 = 0 ∧ l.length ≤ 60 ∧ ∀ H' p, Same H H' → PairsAt K H' p (pairs l) → Q (.ref p) H'
theorem ok_pairs {f : Addr} {fd : FuncData} {k : Nat} (F : Fun K "pairs_of" "pairs_of" sPairs f fd) (mr : mg "range" = none) (ml : mg "len" = none) : FnOk P w K mg base CX0 (k + 1) f fd ["flat"] (spPairs K) := by
  refine F.ok scP (fun vs H Q E h => ?_) (fun cdv A outer s H vs Q E hr h => ?_)
  · obtain ⟨a, l, rfl, _⟩ := h
    rfl
  · obtain ⟨a, l, rfl, hS, hev, hlen, q⟩ := h
    refine ⟨_, pss_one (ps_ret (pe_lc (own := [("at", 1)]) (g := gName 1) (tt := tYes) (te := tTup (tCons (tOp (rIxL K) (tVar 0) (tVar 1)) (tCons (tOp (rIxL K) (tVar 0) (tOp (rI0 fun i j => .int (i + j)) (tVar 1) (tC (.int 1)))) tNil))) rfl scP.nd
      (pi_range3 rfl mr (pa_cons pe_int (pa_cons (pe_callB call_len_seq (by rfl) ml PySem.boot_len (pa_cons (pv 0) pa_nil)) (pa_cons pe_int pa_nil))))
      (blkOk_by (N := ["flat", "at"]) (sc := defScope sPairs) (by decide +kernel))
      (fun _ _ _ _ _ => pg_name (i := 1) scP.nd rfl (Or.inl rfl)) (fun _ _ _ _ _ => pts_nil)
      (fun _ _ _ _ _ => by exact pe_tup (pa_cons (pe_ix ix_list (pv 0) (pv 1) (fun _ _ => rfl)) (pa_cons (pe_ix ix_list (pv 0) (pe_op op_add (pv 1) pe_int) (fun _ _ => rfl)) pa_nil))))), ?_⟩
    refine ⟨.ref a, rfl, a, l.map vI, rfl, .inl hS, 0, _, 2, l.length / 2, rfl, ?_, fun D hD => ?_⟩
    · rw [List.length_map, show l.length = 2 * (l.length / 2) by omega, show 2 * (l.length / 2) / 2 = l.length / 2 by omega]
      exact rg2 _ (by omega)
    · refine lc_it walk_rangeC (fun i H' => ∃ ts : List Addr, Same H H' ∧ H' D = some (.lst (ts.map V.ref)) ∧ Al2 (fun t p => H' t = some (.tup (tp p))) ts ((pairs l).take i))
        ⟨[], same_upd hD, upd_same, .nil⟩ (fun _ _ _ _ => trivial) (fun i x H1 H2 hi hP hy => ?_) (fun H1 hP => ?_)
      · obtain ⟨rfl, rfl⟩ := hy
        obtain ⟨ts, sm, hd, ha⟩ := hP
        obtain ⟨u, hu⟩ : ∃ u, l[2 * i]? = some u := ⟨_, List.getElem?_eq_getElem (show 2 * i < l.length by omega)⟩
        obtain ⟨v, hv⟩ : ∃ v, l[2 * i + 1]? = some v := ⟨_, List.getElem?_eq_getElem (show 2 * i + 1 < l.length by omega)⟩
        have hS2 := sm.seq hS
        have e1 : ((0 : Int) + (i : Nat) * 2) = ((2 * i : Nat) : Int) := by omega
        have e2 : ((0 : Int) + (i : Nat) * 2 + 1) = ((2 * i + 1 : Nat) : Int) := by omega
        refine ⟨rfl, ?_⟩
        refine ⟨.ref a, rfl, _, rfl, a, l.map vI, _, vI u, rfl, rfl, hS2, at_of e1 (vI_at hu), .ref a, rfl, _, rfl, _, _, rfl, rfl, a, l.map vI, _, vI v, rfl, rfl, hS2, at_of e2 (vI_at hv), (by show 2 ≤ sizeLine; decide), fun T nT => ?_⟩
        have nDT : D ≠ T := ne_of_none hd nT
        refine ⟨ts.map V.ref, ?_, ?_, ts ++ [T], ?_, ?_, ?_⟩
        · rw [upd_ne nDT]
          exact hd
        · rw [List.length_map, ha.len]
          refine small_line (Nat.le_trans (List.length_take_le _ _) ?_)
          omega
        · exact same_past (sm.trans (same_upd nT)) hD
        · rw [upd_same, List.map_append]
          rfl
        · rw [take_snoc (pairs_get hu hv)]
          refine Al2.snoc (ha.mono fun t p e => ?_) ?_
          · rw [upd_ne (ne_of e hd (by intro z; cases z)), upd_ne (ne_of_none e nT)]
            exact e
          · rw [upd_ne (Ne.symm nDT), upd_same]
            rfl
      · obtain ⟨ts, sm, hd, ha⟩ := hP
        refine q H1 D sm ⟨ts, SqL.of hd, ?_⟩
        rw [← pairs_len, List.take_length] at ha
        exact ha.mono fun t p e => SqT.of e
end
end Mc
namespace Mc
open PySem PySem.Spec PyProof.Rows L2
abbrev sIs : Stmt := topS 4
theorem scI : FnScope ["places", "flat", "last_rank", "start", "end", "rank"] ["places", "flat"] (defScope sIs) := ⟨rfl, rfl, rfl, by decide +kernel, rfl, by decide +kernel, by decide +kernel⟩
section
variable {P : Program} {w : World} {K : PySem.W.Frag} {mg : Str → Option Value} {base : Heap}
def spIs (K : PySem.W.Frag) : Sp := fun vs H Q _ => ∃ (n : Nat) (a : Addr) (l : List Nat), vs = [vI n, .ref a] ∧ SqL K H a (l.map vI) ∧ l.length ≤ 60 ∧ ∀ H', Same H H' → Q (.bl (isGraph n l)) H'
theorem ok_is {f fP : Addr} {fd fdP : FuncData} {k : Nat} (F : Fun K "is_graph" "is_graph" sIs f fd) (FP : Fun K "pairs_of" "pairs_of" sPairs fP fdP) (bP : Binds K fdP ["flat"] []) (gP : mg "pairs_of" = some (.ref fP))
    (mr : mg "range" = none) (ml : mg "len" = none) {t5 : Tok} (g5 : mg "MOST_PLACES" = some (.int 5 t5)) : FnOk P w K mg base CX0 (k + 2) f fd ["places", "flat"] (spIs K) := by
  have GP : FnOk P w K mg base CX0 (k + 1) fP fdP ["flat"] (spPairs K) := ok_pairs FP mr ml
  refine F.ok scI (fun vs H Q E h => ?_) (fun cdv A outer s H vs Q E hr h => ?_)
  · obtain ⟨n, a, l, rfl, _⟩ := h
    rfl
  · obtain ⟨n, a, l, rfl, hS, hlen, q⟩ := h
    refine ⟨_, pss_cons (ps_if (PW.pt (pw_or (pt_cmpR op_lt (pv 0) pe_int (nomark _)) (pw_or (pt_cmpR op_gt (pv 0) (pe_glob (v := .int 5) rfl g5 ⟨_, rfl⟩) (nomark _)) (pw_or1 (pt_cmpR op_eq (pe_op op_mod (pe_callB call_len_seq (by rfl) ml PySem.boot_len (pa_cons (pv 1) pa_nil)) pe_int) pe_int (nomark _)))))) (pss_one (ps_ret pe_bl)) pss_nil)
      (pss_cons (ps_set (i := 2) scI.nd rfl (.inl rfl) (pe_un un_neg pe_int))
      (pss_cons (ps_for PassesOwn.never rfl (pi_list (pe_call GP hr (by rfl) gP FP.kp bP .nil pass0 (pa_cons (pv 1) pa_nil)))
          (pg_tup rfl (pgs_cons (pg_name (i := 3) scI.nd rfl (.inl rfl)) (pgs_cons (pg_name (i := 4) scI.nd rfl (.inl rfl)) pgs_nil)))
        (pss_cons (ps_if (PW.pt (pw_or (pt_cmpR op_ge (pv 3) (pv 0) (nomark _)) (pw_or1 (pt_cmpR op_ge (pv 4) (pv 0) (nomark _))))) (pss_one (ps_ret pe_bl)) pss_nil)
        (pss_cons (ps_set (i := 5) scI.nd rfl (.inl rfl) (pe_op op_add (pe_op op_mul (pv 3) (pv 0)) (pv 4)))
        (pss_cons (ps_if (pt_cmpR op_le (pv 5) (pv 2) (nomark _)) (pss_one (ps_ret pe_bl)) pss_nil)
        (pss_one (ps_set (i := 2) scI.nd rfl (.inl rfl) (pv 5)))))))
      (pss_one (ps_ret pe_bl)))), ?_⟩
    refine ⟨_, rfl, _, _, rfl, rfl, _, rfl, iteD (fun c1 => ?_) (fun c1 => ?_)⟩
    · have e : isGraph n l = false := if_pos (show n < 1 ∨ 5 < n ∨ l.length % 2 = 1 by omega)
      have q1 := q H (Same.refl H)
      rw [e] at q1
      exact q1
    refine ⟨_, rfl, _, _, rfl, rfl, _, rfl, iteD (fun c2 => ?_) (fun c2 => ?_)⟩
    · have e : isGraph n l = false := if_pos (show n < 1 ∨ 5 < n ∨ l.length % 2 = 1 by omega)
      have q1 := q H (Same.refl H)
      rw [e] at q1
      exact q1
    refine ⟨_, rfl, a, l.map vI, rfl, .inl hS, _, _, rfl, rfl, (by show (0 : Int) < 2; decide), rfl, _, rfl, iteD (fun c3 => ?_) (fun c3 => ?_)⟩
    · have c4 : ((l.map vI).length : Int) % 2 = 1 := V.int.inj c3
      rw [List.length_map] at c4
      have e : isGraph n l = false := if_pos (show n < 1 ∨ 5 < n ∨ l.length % 2 = 1 by omega)
      have q1 := q H (Same.refl H)
      rw [e] at q1
      exact q1
    have hev : ¬ l.length % 2 = 1 := fun z => c3 (congrArg V.int (by rw [List.length_map]; omega))
    have hG : isGraph n l = risesFrom n (-1) (pairs l) := if_neg (show ¬ (n < 1 ∨ 5 < n ∨ l.length % 2 = 1) by omega)
    rw [hG] at q
    refine ⟨1, rfl, .ref a, rfl, a, l, rfl, hS, by omega, hlen, fun H1 p s1 hP => ?_⟩
    obtain ⟨ts, hts, ha⟩ := hP
    refine ⟨p, rfl, ⟨_, hts⟩, for_list (K := K) (a := p) (xs := ts.map V.ref) (fun i σ H' => ∃ (last : Int) (y3 y4 y5 : Option V), σ = [some (vI n), some (.ref a), some (.int last), y3, y4, y5] ∧ Same H1 H' ∧ risesFrom n (-1) (pairs l) = risesFrom n last ((pairs l).drop i))
      ⟨-1, none, none, none, rfl, Same.refl _, rfl⟩ (fun i σ H' _ ⟨_, _, _, _, _, s5, _⟩ => s5.seq hts) ?_ ?_⟩
    · rintro i y σ H' hi ⟨last, y3, y4, y5, rfl, s5, hr5⟩
      obtain ⟨t, ht, rfl⟩ := ref_at hi
      obtain ⟨⟨u, v⟩, hp, hT⟩ := ha.at ht
      have hstep : (pairs l).drop i = (u, v) :: (pairs l).drop (i + 1) := by
        obtain ⟨h1, h2⟩ := List.getElem?_eq_some_iff.mp hp
        rw [List.drop_eq_getElem_cons h1, h2]
      rw [hstep] at hr5
      refine ⟨t, _, rfl, same_t s5 hT, rfl, _, _, rfl, _, _, rfl, rfl, ?_⟩
      refine ⟨_, rfl, _, rfl, _, _, rfl, rfl, _, rfl, iteD (fun d1 => ?_) (fun d1 => ?_)⟩
      · have e : risesFrom n (-1) (pairs l) = false := by
          rw [hr5]
          exact if_pos (show n ≤ u ∨ n ≤ v by omega)
        rw [e] at q
        exact q H' (s1.trans s5)
      refine ⟨_, rfl, _, rfl, _, _, rfl, rfl, _, rfl, iteD (fun d2 => ?_) (fun d2 => ?_)⟩
      · have e : risesFrom n (-1) (pairs l) = false := by
          rw [hr5]
          exact if_pos (show n ≤ u ∨ n ≤ v by omega)
        rw [e] at q
        exact q H' (s1.trans s5)
      have e1 : risesFrom n last ((u, v) :: (pairs l).drop (i + 1)) = (if (rank n (u, v) : Int) ≤ last then false else risesFrom n (rank n (u, v) : Nat) ((pairs l).drop (i + 1))) := if_neg (show ¬ (n ≤ u ∨ n ≤ v) by omega)
      rw [e1] at hr5
      have e2 : ((u : Int) * (n : Int) + (v : Int)) = ((rank n (u, v) : Nat) : Int) := by
        show _ = ((u * n + v : Nat) : Int)
        rw [Int.natCast_add, Int.natCast_mul]
      refine ⟨_, rfl, _, rfl, _, _, rfl, rfl, .inl ⟨by omega, by omega⟩, _, rfl, _, _, rfl, rfl, ?_⟩
      refine ⟨_, rfl, _, rfl, _, _, rfl, rfl, _, rfl, iteD (fun d3 => ?_) (fun d3 => ?_)⟩
      · rw [e2] at d3
        rw [if_pos d3] at hr5
        rw [hr5] at q
        exact q H' (s1.trans s5)
      · rw [e2] at d3
        rw [if_neg d3] at hr5
        refine ⟨_, rfl, (rank n (u, v) : Nat), some (vI u), some (vI v), some (.int (rank n (u, v) : Nat)), ?_, s5, hr5⟩
        show [some (vI n), some (.ref a), some (.int ((u : Int) * (n : Int) + (v : Int))), some (vI u), some (vI v), some (.int ((u : Int) * (n : Int) + (v : Int)))] = _
        rw [e2]
    · rintro σ H' ⟨last, y3, y4, y5, rfl, s5, hr5⟩
      rw [List.length_map, ha.len, List.drop_length] at hr5
      rw [hr5] at q
      exact q H' (s1.trans s5)
end
end Mc
namespace Mc
open PySem PySem.Spec PyProof.Rows L2
abbrev sTab : Stmt := topS 5
theorem scTab : FnScope ["places", "arrows", "table", "start", "end"] ["places", "arrows"] (defScope sTab) := ⟨rfl, rfl, rfl, by decide +kernel, rfl, by decide +kernel, by decide +kernel⟩
section
variable {P : Program} {w : World} {K : PySem.W.Frag} {mg : Str → Option Value} {base : Heap}
def spTab (K : PySem.W.Frag) : Sp := fun vs H Q _ => ∃ (n : Nat) (b : Addr) (ps : List (Nat × Nat)), vs = [vI n, .ref b] ∧ PairsAt K H b ps ∧ n ≤ 5 ∧ ∀ H' p, Same H H' → TabAt K H' p (tab n ps) → Q (.ref p) H'
theorem ok_tab {f : Addr} {fd : FuncData} {lv : Nat} (F : Fun K "arrow_table" "arrow_table" sTab f fd) (mr : mg "range" = none) : FnOk P w K mg base CX0 (lv + 1) f fd ["places", "arrows"] (spTab K) := by
  refine F.ok scTab (fun vs H Q E h => ?_) (fun cdv A outer s H vs Q E hr h => ?_)
  · obtain ⟨n, b, ps, rfl, _⟩ := h
    rfl
  · obtain ⟨n, b, ps, rfl, hP, hn, q⟩ := h
    have hu : (A.deeper (envOfC "arrow_table" (defScope sTab) s.heap.objs.size f cdv)).units + 65 < cLine := by
      have := hr.un
      omega
    refine ⟨_, pss_cons (ps_set (i := 2) scTab.nd rfl (.inl rfl) (pe_lst pa_nil))
      (pss_cons (ps_for PassesOwn.never rfl (pi_range1 rfl mr (pa_cons (pv 0) pa_nil)) (pg_name (i := 3) scTab.nd rfl (.inr rfl))
        (pss_one (ps_expr (pe_bm PySem.F.plainAttrs_list PySem.F.slot_list_append PySem.F.type_list_append mt_append (pv 2)
          (pa_cons (pe_lc (own := [("end", 4)]) (g := gName 4) (tt := tYes) (te := tOp (rInD K) (tTup (tCons (tVar 3) (tCons (tVar 4) tNil))) (tVar 1)) rfl scTab.nd (pi_range1 rfl mr (pa_cons (pv 0) pa_nil))
            (blkOk_by (N := ["places", "arrows", "table", "start", "end"]) (sc := defScope sTab) (by decide +kernel))
            (fun _ _ _ _ _ => pg_name (i := 4) scTab.nd rfl (Or.inl rfl)) (fun _ _ _ _ _ => pts_nil)
            (fun _ _ _ _ _ => by exact pe_cmpR (op_inD hu) (pe_tup (pa_cons (pv 3) (pa_cons (pv 4) pa_nil))) (pv 1) (by rfl))) pa_nil)))))
      (pss_one (ps_ret (pv 2)))), ?_⟩
    refine ⟨Nat.zero_le _, fun D hD => ?_⟩
    refine ⟨_, rfl, (n : Int), rfl, by omega, by omega, for_range (lo := 0) (n := n)
      (fun i σ H' => ∃ (y3 : Option V) (ts : List Addr), σ = [some (vI n), some (.ref b), some (.ref D), y3, none] ∧ Same H H' ∧ H' D = some (.lst (ts.map V.ref)) ∧ Al2 (fun t r => t ≠ D ∧ H' t = some (.lst (r.map V.bl))) ts ((tab n ps).take i))
      ⟨none, [], rfl, same_upd hD, upd_same, .nil⟩ ?_ ?_⟩
    · rintro i σ H1 hi ⟨y3, ts, rfl, s1, hd, ha⟩
      refine ⟨_, rfl, .inl ⟨rfl, _, SqL.of hd⟩, _, rfl, (n : Int), rfl, by omega, by omega, fun R hR => ?_⟩
      have nDR : D ≠ R := ne_of_none hd hR
      refine lc_range (lo := 0) (n := n) (fun j H' => Same H1 H' ∧ H' R = some (.lst (((List.range j).map fun v => ps.contains (i, v)).map V.bl))) ⟨same_upd hR, upd_same⟩ (fun j H2 hj hP2 => ?_) (fun H2 hP2 => ?_)
      · obtain ⟨s2, h2⟩ := hP2
        refine ⟨rfl, _, rfl, _, rfl, (by show 2 ≤ sizeLine; decide), fun T nT => ?_⟩
        have nRT : R ≠ T := ne_of_none h2 nT
        have s3 : Same H2 (upd H2 T (.tup [V.int (0 + (i : Int)), V.int (0 + (j : Int))])) := same_upd nT
        have ei : V.int (0 + (i : Int)) = vI i := by rw [Int.zero_add]; rfl
        have ej : V.int (0 + (j : Int)) = vI j := by rw [Int.zero_add]; rfl
        have hT : SqT K (upd H2 T (.tup [V.int (0 + (i : Int)), V.int (0 + (j : Int))])) T (tp (i, j)) := by
          rw [ei, ej]
          exact SqT.of upd_same
        refine ⟨_, rfl, pD (i, j), ps.map pD, dp_pair hT, (((hP.same s1).same s2).same s3).dp, pD_shaped _, pDs_shaped _, _, s3 _ _ h2, ?_, same_past ((s2.trans s3)) hR, ?_⟩
        · rw [List.length_map, List.length_map, List.length_range]
          exact small_line (by omega)
        · rw [upd_same, pDs_any, List.range_succ, List.map_append, List.map_append]
          rfl
      · obtain ⟨s2, h2⟩ := hP2
        refine ⟨D, ts.map V.ref, _, rfl, rfl, s2 _ _ hd, ?_, some (V.int (0 + (i : Int))), ts ++ [R], rfl, same_past (s1.trans s2) hD, ?_, ?_⟩
        · rw [List.length_map, ha.len]
          exact small_line (Nat.le_trans (List.length_take_le _ _) (by omega))
        · rw [upd_same, List.map_append]
          rfl
        · rw [take_snoc (tab_row hi)]
          refine Al2.snoc (ha.mono fun t r e => ⟨e.1, (upd_ne e.1).trans (s2 _ _ e.2)⟩) ⟨Ne.symm nDR, ?_⟩
          rw [upd_ne (Ne.symm nDR)]
          exact h2
    · rintro σ H1 ⟨y3, ts, rfl, s1, hd, ha⟩
      have e : (tab n ps).take n = tab n ps := List.take_of_length_le (by rw [tab_len]; exact Nat.le_refl _)
      rw [e] at ha
      exact ⟨_, rfl, q H1 D s1 ⟨ts, SqL.of hd, ha.mono fun t r e => SqL.of e.2⟩⟩
end
end Mc
namespace Mc
open PySem PySem.Spec PyProof.Rows L2
abbrev sWid : Stmt := topS 7
theorem scWid : FnScope ["choices", "images", "longer", "choice", "image"] ["choices", "images"] (defScope sWid) := ⟨rfl, rfl, rfl, by decide +kernel, rfl, by decide +kernel, by decide +kernel⟩
section
variable {P : Program} {w : World} {K : PySem.W.Frag} {mg : Str → Option Value} {base : Heap}
def spWid : Sp := fun vs H Q _ => ∃ (a : Addr) (m : Nat) (L : List (List Nat)), vs = [.ref a, vI m] ∧ RowsAt H a L ∧ L.length ≤ 1000 ∧ m ≤ 5 ∧ (∀ r ∈ L, r.length ≤ 1000) ∧ ∀ H' p, Same H H' → RowsAt H' p (wider m L) → Q (.ref p) H'
theorem wider_snoc {m i : Nat} {L : List (List Nat)} {r : List Nat} (h : L[i]? = some r) : wider m (L.take (i + 1)) = wider m (L.take i) ++ (List.range m).map fun x => r ++ [x] := by
  rw [take_snoc h]
  unfold wider
  rw [List.flatMap_append, List.flatMap_cons, List.flatMap_nil, List.append_nil]
theorem ok_wid {f : Addr} {fd : FuncData} {lv : Nat} (F : Fun K "longer_choices" "longer_choices" sWid f fd) (mr : mg "range" = none) : FnOk P w K mg base CX0 (lv + 1) f fd ["choices", "images"] spWid := by
  refine F.ok scWid (fun vs H Q E h => ?_) (fun cdv A outer s H vs Q E hr h => ?_)
  · obtain ⟨a, m, L, rfl, _⟩ := h
    rfl
  · obtain ⟨a, m, L, rfl, hR, hL, hm, hr0, q⟩ := h
    refine ⟨_, pss_cons (ps_set (i := 2) scWid.nd rfl (.inl rfl) (pe_lst pa_nil))
      (pss_cons (ps_for PassesOwn.never rfl (pi_list (pv 0)) (pg_name (i := 3) scWid.nd rfl (.inl rfl))
        (pss_one (ps_for PassesOwn.never rfl (pi_range1 rfl mr (pa_cons (pv 1) pa_nil)) (pg_name (i := 4) scWid.nd rfl (.inl rfl))
          (pss_one (ps_expr (pe_bm PySem.F.plainAttrs_list PySem.F.slot_list_append PySem.F.type_list_append mt_append (pv 2) (pa_cons (pe_op op_cat (pv 3) (pe_lst (pa_cons (pv 4) pa_nil))) pa_nil)))))))
      (pss_one (ps_ret (pv 2)))), ?_⟩
    refine ⟨Nat.zero_le _, fun D hD => ?_⟩
    obtain ⟨ts0, ht0, ha0⟩ := hR
    have sD : Same H (upd H D (.lst [])) := same_upd hD
    refine ⟨_, rfl, a, rfl, ⟨_, SqL.of (sD _ _ ht0)⟩, for_list (K := K) (a := a) (xs := ts0.map V.ref)
      (fun i σ H' => ∃ (y3 y4 : Option V) (ts : List Addr), σ = [some (.ref a), some (vI m), some (.ref D), y3, y4] ∧ Same H H' ∧ H' D = some (.lst (ts.map V.ref)) ∧ Al2 (fun t r => t ≠ D ∧ H' t = some (.lst (r.map vI))) ts (wider m (L.take i)))
      ⟨none, none, [], rfl, sD, upd_same, .nil⟩ (fun i σ H' _ ⟨_, _, _, _, s5, _⟩ => SqL.of (s5 _ _ ht0)) ?_ ?_⟩
    · rintro i y σ H1 hi ⟨y3, y4, ts, rfl, s1, hd, ha⟩
      obtain ⟨t, ht, rfl⟩ := ref_at hi
      obtain ⟨r, hr1, hT⟩ := ha0.at ht
      have hiL : i < L.length := (List.getElem?_eq_some_iff.mp hr1).1
      have hrl : r.length ≤ 1000 := hr0 r (List.mem_of_getElem? hr1)
      have snoc := wider_snoc (m := m) hr1
      have wl := wider_len m (L.take i)
      have wl2 : (L.take i).length * m ≤ 1000 * 5 := Nat.mul_le_mul (Nat.le_trans (List.length_take_le _ _) (by omega)) hm
      refine ⟨_, rfl, (m : Int), rfl, by omega, by omega, for_range (lo := 0) (n := m)
        (fun j σ H' => ∃ (y4 : Option V) (ts : List Addr), σ = [some (.ref a), some (vI m), some (.ref D), some (.ref t), y4] ∧ Same H H' ∧ H' D = some (.lst (ts.map V.ref)) ∧ Al2 (fun t r => t ≠ D ∧ H' t = some (.lst (r.map vI))) ts (wider m (L.take i) ++ (List.range j).map fun x => r ++ [x]))
        ⟨y4, ts, rfl, s1, hd, ?_⟩ ?_ ?_⟩
      · rw [List.range_zero, List.map_nil, List.append_nil]
        exact ha
      · rintro j σ H2 hj ⟨y4, ts, rfl, s2, hd2, ha2⟩
        have hT2 := s2 _ _ hT
        refine ⟨_, rfl, .inl ⟨rfl, _, SqL.of hd2⟩, _, rfl, _, rfl, (by show 1 ≤ sizeLine; decide), fun B nB => ?_⟩
        have s3 : Same H2 (upd H2 B (.lst [V.int (0 + (j : Int))])) := same_upd nB
        refine ⟨t, B, _, _, rfl, rfl, s3 _ _ hT2, upd_same, ?_, fun N nN => ?_⟩
        · rw [List.length_map]
          exact Nat.le_of_lt (small_line (by simp only [List.length_cons, List.length_nil]; omega))
        · have s4 := s3.trans (same_upd (o := .lst (r.map vI ++ [V.int (0 + (j : Int))])) nN)
          have nDN : D ≠ N := ne_of_none (s3 _ _ hd2) nN
          have hlen : ts.length ≤ 10000 := by
            rw [ha2.len, List.length_append, List.length_map, List.length_range]
            omega
          refine ⟨D, ts.map V.ref, _, rfl, rfl, s4 _ _ hd2, ?_, some (V.int (0 + (j : Int))), ts ++ [N], rfl, same_past (s2.trans s4) hD, ?_, ?_⟩
          · rw [List.length_map]
            exact small_line (by omega)
          · rw [upd_same, List.map_append]
            rfl
          · rw [List.range_succ, List.map_append, ← List.append_assoc]
            refine Al2.snoc (ha2.mono fun t r e => ⟨e.1, (upd_ne e.1).trans (s4 _ _ e.2)⟩) ⟨Ne.symm nDN, ?_⟩
            rw [upd_ne (Ne.symm nDN), upd_same, List.map_append, Int.zero_add]
            rfl
      · rintro σ H2 ⟨y4, ts, rfl, s2, hd2, ha2⟩
        rw [← snoc] at ha2
        exact ⟨_, y4, ts, rfl, s2, hd2, ha2⟩
    · rintro σ H1 ⟨y3, y4, ts, rfl, s1, hd, ha⟩
      rw [List.length_map, ha0.len, List.take_length] at ha
      exact ⟨_, rfl, q H1 D s1 ⟨ts, hd, ha.mono fun t r e => e.2⟩⟩
end
end Mc
namespace Mc
open PySem PySem.Spec PyProof.Rows L2
abbrev sAll : Stmt := topS 6
theorem scAll : FnScope ["places", "images", "choices", "place"] ["places", "images"] (defScope sAll) := ⟨rfl, rfl, rfl, by decide +kernel, rfl, by decide +kernel, by decide +kernel⟩
section
variable {P : Program} {w : World} {K : PySem.W.Frag} {mg : Str → Option Value} {base : Heap}
def spAll : Sp := fun vs H Q _ => ∃ k m : Nat, vs = [vI k, vI m] ∧ k ≤ 5 ∧ m ≤ 5 ∧ ∀ H' p, Same H H' → RowsAt H' p (choices m k) → Q (.ref p) H'
theorem ok_all {f fW : Addr} {fd fdW : FuncData} {lv : Nat} (F : Fun K "all_choices" "all_choices" sAll f fd) (FW : Fun K "longer_choices" "longer_choices" sWid fW fdW) (bW : Binds K fdW ["choices", "images"] []) (gW : mg "longer_choices" = some (.ref fW)) (mr : mg "range" = none) :
    FnOk P w K mg base CX0 (lv + 2) f fd ["places", "images"] spAll := by
  have GW : FnOk P w K mg base CX0 (lv + 1) fW fdW ["choices", "images"] spWid := ok_wid FW mr
  refine F.ok scAll (fun vs H Q E h => ?_) (fun cdv A outer s H vs Q E hr h => ?_)
  · obtain ⟨k, m, rfl, _⟩ := h
    rfl
  · obtain ⟨k, m, rfl, hk, hm, q⟩ := h
    refine ⟨_, pss_cons (ps_set (i := 2) scAll.nd rfl (.inl rfl) (pe_lst (pa_cons (pe_lst pa_nil) pa_nil)))
      (pss_cons (ps_for PassesOwn.never rfl (pi_range1 rfl mr (pa_cons (pv 0) pa_nil)) (pg_name (i := 3) scAll.nd rfl (.inl rfl))
        (pss_one (ps_set (i := 2) scAll.nd rfl (.inl rfl) (pe_call GW hr (by rfl) gW FW.kp bW .nil pass0 (pa_cons (pv 2) (pa_cons (pv 1) pa_nil))))))
      (pss_one (ps_ret (pv 2)))), ?_⟩
    refine ⟨Nat.zero_le _, fun B hB => ⟨(by show 1 ≤ sizeLine; decide), fun D hD => ?_⟩⟩
    have s1 : Same H (upd H B (.lst [])) := same_upd hB
    have s2 : Same (upd H B (.lst [])) (upd (upd H B (.lst [])) D (.lst [.ref B])) := same_upd hD
    refine ⟨_, rfl, (k : Int), rfl, by omega, by omega, for_range (lo := 0) (n := k)
      (fun i σ H' => ∃ (d : Addr) (y3 : Option V), σ = [some (vI k), some (vI m), some (.ref d), y3] ∧ Same H H' ∧ RowsAt H' d (choices m i))
      ⟨D, none, rfl, s1.trans s2, [B], upd_same, .cons (s2 _ _ upd_same) .nil⟩ ?_ ?_⟩
    · rintro i σ H1 hi ⟨d, y3, rfl, s3, h3⟩
      refine ⟨_, rfl, _, rfl, d, m, choices m i, rfl, h3, ?_, hm, fun r hr => ?_, fun H2 p s4 h4 => ?_⟩
      · rw [choices_len]
        have h1 : m ^ i ≤ 5 ^ i := Nat.pow_le_pow_left hm i
        have h2 : 5 ^ i ≤ 5 ^ 4 := Nat.pow_le_pow_right (by omega) (by omega)
        omega
      · rw [(choices_mem hr).1]
        omega
      · exact ⟨p, _, rfl, s3.trans s4, h4⟩
    · rintro σ H1 ⟨d, y3, rfl, s3, h3⟩
      exact ⟨_, rfl, q H1 d s3 h3⟩
end
end Mc
namespace Mc
open PySem PySem.Spec PyProof.Rows L2
abbrev sMap : Stmt := topS 8
theorem scMap : FnScope ["choice", "arrows", "table", "start", "end"] ["choice", "arrows", "table"] (defScope sMap) := ⟨rfl, rfl, rfl, by decide +kernel, rfl, by decide +kernel, by decide +kernel⟩
/-- a choice that is_map may be asked of -/
structure Fits (ps : List (Nat × Nat)) (T : List (List Bool)) (f : List Nat) : Prop where
  arr : ∀ p ∈ ps, p.1 < f.length ∧ p.2 < f.length
  img : ∀ x ∈ f, x < T.length
  sq : ∀ r ∈ T, r.length = T.length
theorem mapOk_cons (p : Nat × Nat) (r : List (Nat × Nat)) (T : List (List Bool)) (f : List Nat) : mapOk (p :: r) T f = ((T.getD (f.getD p.1 0) []).getD (f.getD p.2 0) false && mapOk r T f) := rfl
section
variable {P : Program} {w : World} {K : PySem.W.Frag} {mg : Str → Option Value} {base : Heap}
def spMap (K : PySem.W.Frag) : Sp := fun vs H Q _ => ∃ (a b c : Addr) (f : List Nat) (ps : List (Nat × Nat)) (T : List (List Bool)), vs = [.ref a, .ref b, .ref c] ∧ SqL K H a (f.map vI) ∧ PairsAt K H b ps ∧ TabAt K H c T ∧ Fits ps T f ∧ Q (.bl (mapOk ps T f)) H
theorem ok_map {f : Addr} {fd : FuncData} {lv : Nat} (F : Fun K "is_map" "is_map" sMap f fd) : FnOk P w K mg base CX0 (lv + 1) f fd ["choice", "arrows", "table"] (spMap K) := by
  refine F.ok scMap (fun vs H Q E h => ?_) (fun cdv A outer s H vs Q E hr h => ?_)
  · obtain ⟨a, b, c, g, ps, T, rfl, _⟩ := h
    rfl
  · obtain ⟨a, b, c, g, ps, T, rfl, hF, hP, hT, fits, q⟩ := h
    refine ⟨_, pss_cons (ps_for PassesOwn.never rfl (pi_list (pv 1)) (pg_tup rfl (pgs_cons (pg_name (i := 3) scMap.nd rfl (.inl rfl)) (pgs_cons (pg_name (i := 4) scMap.nd rfl (.inl rfl)) pgs_nil)))
        (pss_one (ps_if (pt_not (pt_val (pe_ix ix_list (pe_ix ix_list (pv 2) (pe_ix ix_list (pv 0) (pv 3) (fun _ _ => rfl)) (fun _ _ => rfl)) (pe_ix ix_list (pv 0) (pv 4) (fun _ _ => rfl)) (fun _ _ => rfl))))
          (pss_one (ps_ret pe_bl)) pss_nil)))
      (pss_one (ps_ret pe_bl)), ?_⟩
    obtain ⟨ts, hts, ha⟩ := hP
    obtain ⟨us, hus, hb⟩ := hT
    refine ⟨_, rfl, b, rfl, ⟨_, hts⟩, for_list (K := K) (a := b) (xs := ts.map V.ref)
      (fun i σ H' => ∃ (y3 y4 : Option V), σ = [some (.ref a), some (.ref b), some (.ref c), y3, y4] ∧ H' = H ∧ mapOk ps T g = mapOk (ps.drop i) T g)
      ⟨none, none, rfl, rfl, rfl⟩ (fun i σ H' _ ⟨_, _, _, e, _⟩ => by rw [e]; exact hts) ?_ ?_⟩
    · rintro i y σ H' hi ⟨y3, y4, rfl, rfl, hm⟩
      obtain ⟨t, ht, rfl⟩ := ref_at hi
      obtain ⟨⟨u, v⟩, hp, hTt⟩ := ha.at ht
      have hstep : ps.drop i = (u, v) :: ps.drop (i + 1) := by
        obtain ⟨h1, h2⟩ := List.getElem?_eq_some_iff.mp hp
        rw [List.drop_eq_getElem_cons h1, h2]
      rw [hstep, mapOk_cons] at hm
      obtain ⟨hu, hv⟩ := fits.arr _ (List.mem_of_getElem? hp)
      have hu : u < g.length := hu
      have hv : v < g.length := hv
      have gu : g[u]? = some (g.getD u 0) := by
        rw [List.getD_eq_getElem?_getD, List.getElem?_eq_getElem hu]
        rfl
      have gv : g[v]? = some (g.getD v 0) := by
        rw [List.getD_eq_getElem?_getD, List.getElem?_eq_getElem hv]
        rfl
      have lu : g.getD u 0 < T.length := getD_lt fits.img hu
      have lv : g.getD v 0 < T.length := getD_lt fits.img hv
      have gT : T[g.getD u 0]? = some (T.getD (g.getD u 0) []) := by
        rw [List.getD_eq_getElem?_getD (l := T), List.getElem?_eq_getElem lu]
        rfl
      obtain ⟨z, hz, hZ⟩ := hb.at2 gT
      have hrow : (T.getD (g.getD u 0) []).length = T.length := fits.sq _ (List.mem_of_getElem? gT)
      have gR : ((T.getD (g.getD u 0) []).map V.bl)[g.getD v 0]? = some (V.bl ((T.getD (g.getD u 0) []).getD (g.getD v 0) false)) := by
        rw [List.getElem?_map, List.getD_eq_getElem?_getD (l := T.getD (g.getD u 0) []), List.getElem?_eq_getElem (by omega)]
        rfl
      have gZ : (us.map V.ref)[g.getD u 0]? = some (V.ref z) := by
        rw [List.getElem?_map, hz]
        rfl
      refine ⟨t, _, rfl, hTt, rfl, _, _, rfl, _, _, rfl, rfl, ?_⟩
      refine ⟨_, rfl, _, rfl, _, rfl, a, _, _, _, rfl, rfl, hF, at_of rfl (vI_at gu), c, _, _, _, rfl, rfl, hus, at_of rfl gZ, _, rfl, _, rfl, a, _, _, _, rfl, rfl, hF, at_of rfl (vI_at gv), z, _, _, _, rfl, rfl, hZ, at_of rfl gR, _, rfl, ?_⟩
      cases hval : (T.getD (g.getD u 0) []).getD (g.getD v 0) false with
      | false =>
        rw [hval, Bool.false_and] at hm
        rw [hm] at q
        exact q
      | true =>
        rw [hval, Bool.true_and] at hm
        exact ⟨_, _, rfl, rfl, hm⟩
    · rintro σ H' ⟨y3, y4, rfl, rfl, hm⟩
      rw [List.length_map, ha.len, List.drop_length] at hm
      rw [hm] at q
      exact q
end
end Mc
namespace Mc
open PySem PySem.Spec PyProof.Rows L2
theorem tab_sq {n : Nat} {ps : List (Nat × Nat)} : ∀ r ∈ tab n ps, r.length = (tab n ps).length := fun r hr => by
  obtain ⟨u, _, rfl⟩ := List.mem_map.mp hr
  rw [tab_len, List.length_map, List.length_range]
theorem fits_of {k a n : Nat} {ps : List (Nat × Nat)} : ∀ f ∈ choices n k, Fits (Ks550.graphAt k a).arrows (tab n ps) f := fun f hf => by
  obtain ⟨h1, h2⟩ := choices_mem hf
  refine ⟨fun p hp => ?_, fun x hx => ?_, tab_sq⟩
  · rw [h1]
    exact arrows_in hp
  · rw [tab_len]
    exact h2 x hx
end Mc
namespace Mc
open PySem PySem.Spec PyProof.Rows L2
abbrev sCnt : Stmt := topS 9
theorem scCnt : FnScope ["arrows", "choices", "table", "total", "choice"] ["arrows", "choices", "table"] (defScope sCnt) := ⟨rfl, rfl, rfl, by decide +kernel, rfl, by decide +kernel, by decide +kernel⟩
section
variable {P : Program} {w : World} {K : PySem.W.Frag} {mg : Str → Option Value} {base : Heap}
def spCnt (K : PySem.W.Frag) : Sp := fun vs H Q _ => ∃ (b a c : Addr) (ps : List (Nat × Nat)) (L : List (List Nat)) (T : List (List Bool)), vs = [.ref b, .ref a, .ref c] ∧ PairsAt K H b ps ∧ RowsAt H a L ∧ TabAt K H c T ∧ (∀ f ∈ L, Fits ps T f) ∧ Q (vI (cnt ps L T)) H
theorem cnt_snoc {ps : List (Nat × Nat)} {L : List (List Nat)} {T : List (List Bool)} {i : Nat} {f : List Nat} (h : L[i]? = some f) : cnt ps (L.take (i + 1)) T = cnt ps (L.take i) T + if mapOk ps T f = true then 1 else 0 := by
  unfold cnt
  rw [take_snoc h, List.filter_append, List.length_append]
  congr 1
  by_cases e : mapOk ps T f = true
  · simp [e]
  · simp [e]
theorem ok_cnt {f fM : Addr} {fd fdM : FuncData} {lv : Nat} (F : Fun K "count_maps" "count_maps" sCnt f fd) (FM : Fun K "is_map" "is_map" sMap fM fdM) (bM : Binds K fdM ["choice", "arrows", "table"] []) (gM : mg "is_map" = some (.ref fM)) :
    FnOk P w K mg base CX0 (lv + 2) f fd ["arrows", "choices", "table"] (spCnt K) := by
  have GM : FnOk P w K mg base CX0 (lv + 1) fM fdM ["choice", "arrows", "table"] (spMap K) := ok_map FM
  refine F.ok scCnt (fun vs H Q E h => ?_) (fun cdv A outer s H vs Q E hr h => ?_)
  · obtain ⟨b, a, c, ps, L, T, rfl, _⟩ := h
    rfl
  · obtain ⟨b, a, c, ps, L, T, rfl, hP, hR, hT, fits, q⟩ := h
    refine ⟨_, pss_cons (ps_set (i := 3) scCnt.nd rfl (.inl rfl) pe_int)
      (pss_cons (ps_for PassesOwn.never rfl (pi_list (pv 1)) (pg_name (i := 4) scCnt.nd rfl (.inl rfl))
        (pss_one (ps_if (pt_val (pe_call GM hr (by rfl) gM FM.kp bM .nil pass0 (pa_cons (pv 4) (pa_cons (pv 0) (pa_cons (pv 2) pa_nil)))))
          (pss_one (ps_set (i := 3) scCnt.nd rfl (.inl rfl) (pe_op op_add (pv 3) pe_int))) pss_nil)))
      (pss_one (ps_ret (pv 3)))), ?_⟩
    obtain ⟨ts, hts, ha⟩ := hR
    refine ⟨_, rfl, a, rfl, ⟨_, SqL.of hts⟩, for_list (K := K) (a := a) (xs := ts.map V.ref)
      (fun i σ H' => ∃ (y4 : Option V), σ = [some (.ref b), some (.ref a), some (.ref c), some (vI (cnt ps (L.take i) T)), y4] ∧ H' = H)
      ⟨none, rfl, rfl⟩ (fun i σ H' _ ⟨_, _, e⟩ => by rw [e]; exact SqL.of hts) ?_ ?_⟩
    · rintro i y σ H' hi ⟨y4, rfl, rfl⟩
      obtain ⟨t, ht, rfl⟩ := ref_at hi
      obtain ⟨f, hf, hTt⟩ := ha.at ht
      have sn := cnt_snoc (ps := ps) (T := T) hf
      refine ⟨_, rfl, _, rfl, _, rfl, t, b, c, f, ps, T, rfl, SqL.of hTt, hP, hT, fits f (List.mem_of_getElem? hf), _, rfl, ?_⟩
      cases hm : mapOk ps T f with
      | true =>
        rw [hm, if_pos rfl] at sn
        refine ⟨_, rfl, _, _, rfl, rfl, some (.ref t), ?_, rfl⟩
        rw [sn]
        rfl
      | false =>
        rw [hm, if_neg Bool.false_ne_true, Nat.add_zero] at sn
        refine ⟨some (.ref t), ?_, rfl⟩
        rw [sn]
        rfl
    · rintro σ H' ⟨y4, rfl, rfl⟩
      rw [List.length_map, ha.len, List.take_length]
      exact ⟨_, rfl, q⟩
end
end Mc
namespace Mc
open PySem PySem.Spec PyProof.Rows L2
abbrev sEach : Stmt := topS 10
theorem scEach : FnScope ["choice", "images", "image"] ["choice", "images"] (defScope sEach) := ⟨rfl, rfl, rfl, by decide +kernel, rfl, by decide +kernel, by decide +kernel⟩
theorem flat_all : ∀ f : List Nat, (f.map vI).all flatV = true
  | [] => rfl
  | x :: r => by
    rw [List.map_cons, List.all_cons, flat_all r]
    rfl
theorem eqV_nat (x y : Nat) : eqV (vI x) (vI y) = (y == x) := by
  show decide ((x : Int) = (y : Int)) = (y == x)
  rw [Bool.eq_iff_iff, decide_eq_true_eq, beq_iff_eq]
  omega
theorem inV_nat (f : List Nat) (x : Nat) : inV (vI x) (f.map vI) = f.contains x := by
  unfold inV
  induction f with
  | nil => rfl
  | cons y r ih => rw [List.map_cons, List.any_cons, ih, eqV_nat, List.contains_cons]
theorem hits_succ (i : Nat) (f : List Nat) : hitsAll (i + 1) f = (hitsAll i f && f.contains i) := by
  unfold hitsAll
  rw [List.range_succ, List.all_append, List.all_cons, List.all_nil, Bool.and_true]
theorem hits_not {i m : Nat} {f : List Nat} (h : i < m) (hc : f.contains i = false) : hitsAll m f = false := by
  cases e : hitsAll m f with
  | false => rfl
  | true =>
    unfold hitsAll at e
    have := List.all_eq_true.mp e i (List.mem_range.mpr h)
    rw [hc] at this
    cases this
section
variable {P : Program} {w : World} {K : PySem.W.Frag} {mg : Str → Option Value} {base : Heap}
def spEach (K : PySem.W.Frag) : Sp := fun vs H Q _ => ∃ (a : Addr) (m : Nat) (f : List Nat), vs = [.ref a, vI m] ∧ SqL K H a (f.map vI) ∧ m ≤ 5 ∧ Q (.bl (hitsAll m f)) H
theorem ok_each {f : Addr} {fd : FuncData} {lv : Nat} (F : Fun K "gives_each" "gives_each" sEach f fd) (mr : mg "range" = none) : FnOk P w K mg base CX0 (lv + 1) f fd ["choice", "images"] (spEach K) := by
  refine F.ok scEach (fun vs H Q E h => ?_) (fun cdv A outer s H vs Q E hr h => ?_)
  · obtain ⟨a, m, g, rfl, _⟩ := h
    rfl
  · obtain ⟨a, m, g, rfl, hS, hm, q⟩ := h
    refine ⟨_, pss_cons (ps_for PassesOwn.never rfl (pi_range1 rfl mr (pa_cons (pv 1) pa_nil)) (pg_name (i := 2) scEach.nd rfl (.inl rfl))
        (pss_one (ps_if (pt_cmpR op_notIn_seq (pv 2) (pv 0) (by rfl)) (pss_one (ps_ret pe_bl)) pss_nil)))
      (pss_one (ps_ret pe_bl)), ?_⟩
    refine ⟨_, rfl, (m : Int), rfl, by omega, by omega, for_range (lo := 0) (n := m)
      (fun i σ H' => ∃ (y2 : Option V), σ = [some (.ref a), some (vI m), y2] ∧ H' = H ∧ hitsAll i g = true)
      ⟨none, rfl, rfl, rfl⟩ ?_ ?_⟩
    · rintro i σ H' hi ⟨y2, rfl, rfl, hh⟩
      have ei : V.int (0 + (i : Int)) = vI i := by rw [Int.zero_add]; rfl
      refine ⟨_, rfl, _, rfl, a, _, rfl, .inl hS, rfl, flat_all g, _, rfl, ?_⟩
      rw [ei, inV_nat]
      cases hc : g.contains i with
      | true =>
        refine ⟨some (vI i), rfl, rfl, ?_⟩
        rw [hits_succ, hh, hc]
        rfl
      | false =>
        rw [hits_not hi hc] at q
        exact q
    · rintro σ H' ⟨y2, rfl, rfl, hh⟩
      rw [hh] at q
      exact q
end
end Mc
namespace Mc
open PySem PySem.Spec PyProof.Rows L2
abbrev sOn : Stmt := topS 11
theorem scOn : FnScope ["n", "m", "first", "second", "choices", "choice"] ["n", "m", "first", "second"] (defScope sOn) := ⟨rfl, rfl, rfl, by decide +kernel, rfl, by decide +kernel, by decide +kernel⟩
theorem fits_two {n m : Nat} {ps qs : List (Nat × Nat)} (g : Good n ps) : ∀ f ∈ (choices m n).filter (hitsAll m), Fits ps (tab m qs) f := fun f hf => by
  obtain ⟨h1, h2⟩ := choices_mem (List.mem_filter.mp hf).1
  refine ⟨fun p hp => ?_, fun x hx => ?_, tab_sq⟩
  · rw [h1]
    exact g.inn p hp
  · rw [tab_len]
    exact h2 x hx
section
variable {P : Program} {w : World} {K : PySem.W.Frag} {mg : Str → Option Value} {base : Heap}
def spOn (K : PySem.W.Frag) : Sp := fun vs H Q _ => ∃ (n m : Nat) (a b : Addr) (l r : List Nat), vs = [vI n, vI m, .ref a, .ref b] ∧ SqL K H a (l.map vI) ∧ SqL K H b (r.map vI) ∧ l.length ≤ 60 ∧ r.length ≤ 60 ∧ ∀ H' p, SqL K H' p ((ontoAns n m l r).map V.int) → Q (.ref p) H'
theorem ok_onto {f fP fI fT fA fW fC fM fE : Addr} {fd fdP fdI fdT fdA fdW fdC fdM fdE : FuncData} (F : Fun K "onto" "onto" sOn f fd)
    (FP : Fun K "pairs_of" "pairs_of" sPairs fP fdP) (bP : Binds K fdP ["flat"] []) (gP : mg "pairs_of" = some (.ref fP))
    (FI : Fun K "is_graph" "is_graph" sIs fI fdI) (bI : Binds K fdI ["places", "flat"] []) (gI : mg "is_graph" = some (.ref fI))
    (FT : Fun K "arrow_table" "arrow_table" sTab fT fdT) (bT : Binds K fdT ["places", "arrows"] []) (gT : mg "arrow_table" = some (.ref fT))
    (FA : Fun K "all_choices" "all_choices" sAll fA fdA) (bA : Binds K fdA ["places", "images"] []) (gA : mg "all_choices" = some (.ref fA))
    (FW : Fun K "longer_choices" "longer_choices" sWid fW fdW) (bW : Binds K fdW ["choices", "images"] []) (gW : mg "longer_choices" = some (.ref fW))
    (FC : Fun K "count_maps" "count_maps" sCnt fC fdC) (bC : Binds K fdC ["arrows", "choices", "table"] []) (gC : mg "count_maps" = some (.ref fC))
    (FM : Fun K "is_map" "is_map" sMap fM fdM) (bM : Binds K fdM ["choice", "arrows", "table"] []) (gM : mg "is_map" = some (.ref fM))
    (FE : Fun K "gives_each" "gives_each" sEach fE fdE) (bE : Binds K fdE ["choice", "images"] []) (gE : mg "gives_each" = some (.ref fE))
    (mr : mg "range" = none) (ml : mg "len" = none) {t5 t22 : Tok} (g5 : mg "MOST_PLACES" = some (.int 5 t5)) (g22 : mg "NOT_AS_TOLD" = some (.int (-22) t22)) :
    FnOk P w K mg base CX0 3 f fd ["n", "m", "first", "second"] (spOn K) := by
  have GP : FnOk P w K mg base CX0 1 fP fdP ["flat"] (spPairs K) := ok_pairs FP mr ml
  have GI : FnOk P w K mg base CX0 2 fI fdI ["places", "flat"] (spIs K) := ok_is FI FP bP gP mr ml g5
  have GT : FnOk P w K mg base CX0 1 fT fdT ["places", "arrows"] (spTab K) := ok_tab FT mr
  have GA : FnOk P w K mg base CX0 2 fA fdA ["places", "images"] spAll := ok_all FA FW bW gW mr
  have GC : FnOk P w K mg base CX0 2 fC fdC ["arrows", "choices", "table"] (spCnt K) := ok_cnt FC FM bM gM
  have GE : FnOk P w K mg base CX0 1 fE fdE ["choice", "images"] (spEach K) := ok_each FE mr
  refine F.ok scOn (fun vs H Q E h => ?_) (fun cdv A outer s H vs Q E hr h => ?_)
  · obtain ⟨n, m, a, b, l, r, rfl, _⟩ := h
    rfl
  · obtain ⟨n, m, a, b, l, r, rfl, hS, hS2, hlen, hlen2, q⟩ := h
    have hr1 : Room 1 _ := hr.mono (by decide)
    refine ⟨_, pss_cons (ps_if (PW.pt (pw_or (pt_not (pt_val (pe_call GI hr (by rfl) gI FI.kp bI .nil pass0 (pa_cons (pv 0) (pa_cons (pv 2) pa_nil))))) (pw_or1 (pt_not (pt_val (pe_call GI hr (by rfl) gI FI.kp bI .nil pass0 (pa_cons (pv 1) (pa_cons (pv 3) pa_nil))))))))
        (pss_one (ps_ret (pe_lst (pa_cons (pe_glob (v := .int (-22)) rfl g22 ⟨_, rfl⟩) pa_nil)))) pss_nil)
      (pss_cons (ps_setLc (i := 4) (own := [("choice", 5)]) (g := gName 5) (te := tVar 5) (by rfl) scOn.nd rfl rfl (sw_true rfl rfl rfl (by decide +kernel))
        (pi_list (pe_call GA hr (by rfl) gA FA.kp bA .nil pass0 (pa_cons (pv 0) (pa_cons (pv 1) pa_nil))))
        (blkOk_by (N := ["n", "m", "first", "second", "choices", "choice"]) (sc := defScope sOn) (by decide +kernel))
        (fun _ _ _ _ _ => pg_name (i := 5) scOn.nd rfl (Or.inl rfl))
        (fun _ _ _ _ _ => by exact pts_one (pt_val (pe_call GE hr1 (by rfl) gE FE.kp bE .nil pass0 (pa_cons (pv 5) (pa_cons (pv 1) pa_nil)))))
        (fun _ _ _ _ _ => by exact pv 5))
      (pss_one (ps_ret (pe_lst (pa_cons (pe_call GC hr (by rfl) gC FC.kp bC .nil pass0 (pa_cons (pe_call GP hr1 (by rfl) gP FP.kp bP .nil pass0 (pa_cons (pv 2) pa_nil)) (pa_cons (pv 4) (pa_cons (pe_call GT hr1 (by rfl) gT FT.kp bT .nil pass0 (pa_cons (pv 1) (pa_cons (pe_call GP hr1 (by rfl) gP FP.kp bP .nil pass0 (pa_cons (pv 3) pa_nil)) pa_nil))) pa_nil)))) pa_nil))))), ?_⟩
    have bad : ¬ (isGraph n l = true ∧ isGraph m r = true) → ∀ H2 : Hp, tRet (tLst (tCons (tC (V.int (-22))) tNil)) { nx := fun _ _ => True, rt := Q } [] H2 := fun z H2 => by
      refine ⟨(by show 1 ≤ sizeLine; decide), fun p hp => q _ p (SqL.of ?_)⟩
      unfold ontoAns
      rw [if_neg z]
      exact upd_same
    refine ⟨_, rfl, _, rfl, n, a, l, rfl, hS, hlen, fun H1 s1 => ⟨_, rfl, ?_⟩⟩
    cases hG : isGraph n l with
    | false => exact bad (fun z => by rw [hG] at z; exact Bool.false_ne_true z.1) H1
    | true =>
      refine ⟨_, rfl, _, rfl, m, b, r, rfl, s1.seq hS2, hlen2, fun H2 s2 => ⟨_, rfl, ?_⟩⟩
      cases hG2 : isGraph m r with
      | false => exact bad (fun z => by rw [hG2] at z; exact Bool.false_ne_true z.2) H2
      | true =>
        obtain ⟨hn1, hn5, hev, hgood⟩ := isGraph_good hG
        obtain ⟨hm1, hm5, hev2, hgood2⟩ := isGraph_good hG2
        have hS' := (s1.trans s2).seq hS
        have hS2' := (s1.trans s2).seq hS2
        refine ⟨_, rfl, _, rfl, n, m, rfl, hn5, hm5, fun H3 c s3 h3 => ?_⟩
        obtain ⟨ts, hts, ha⟩ := h3
        refine ⟨c, rfl, ⟨_, SqL.of hts⟩, fun D hD => ?_⟩
        have hcl : (choices m n).length ≤ 3125 := by
          rw [choices_len]
          have h1 : m ^ n ≤ 5 ^ n := Nat.pow_le_pow_left hm5 n
          have h2 : 5 ^ n ≤ 5 ^ 5 := Nat.pow_le_pow_right (by omega) hn5
          omega
        refine lc_list (K := K) (a := c) (xs := ts.map V.ref)
          (fun i H' => ∃ us : List Addr, Same H3 H' ∧ H' D = some (.lst (us.map V.ref)) ∧ Al2 (fun t g => t ≠ D ∧ H' t = some (.lst (g.map vI))) us (((choices m n).take i).filter (hitsAll m)))
          ⟨[], same_upd hD, upd_same, .nil⟩ (fun i H' _ ⟨_, s4, _⟩ => SqL.of (s4 _ _ hts)) (fun i x H4 hi hP => ?_) (fun H4 hP => ?_)
        · obtain ⟨us, s4, hd, hal⟩ := hP
          obtain ⟨t, ht, rfl⟩ := ref_at hi
          obtain ⟨g, hg, hT⟩ := ha.at ht
          have nDt : t ≠ D := ne_of_none hT hD
          have hT4 := s4 _ _ hT
          have e : ((choices m n).take (i + 1)).filter (hitsAll m) = ((choices m n).take i).filter (hitsAll m) ++ [g].filter (hitsAll m) := by
            rw [take_snoc hg, List.filter_append]
          refine ⟨rfl, _, rfl, _, rfl, t, m, g, rfl, SqL.of hT4, hm5, _, rfl, ?_⟩
          cases hh : hitsAll m g with
          | true =>
            rw [List.filter_cons_of_pos hh, List.filter_nil] at e
            refine ⟨_, rfl, us.map V.ref, hd, ?_, us ++ [t], same_past s4 hD, ?_, ?_⟩
            · rw [List.length_map, hal.len]
              exact small_line (Nat.le_trans (List.length_filter_le _ _) (Nat.le_trans (List.length_take_le' _ _) (by omega)))
            · rw [upd_same, List.map_append]
              rfl
            · rw [e]
              exact Al2.snoc (hal.mono fun t g e => ⟨e.1, (upd_ne e.1).trans e.2⟩) ⟨nDt, (upd_ne nDt).trans hT4⟩
          | false =>
            rw [List.filter_cons_of_neg (by rw [hh]; exact Bool.false_ne_true), List.filter_nil, List.append_nil] at e
            refine ⟨us, s4, hd, ?_⟩
            rw [e]
            exact hal
        · obtain ⟨us, s4, hd, hal⟩ := hP
          rw [List.length_map, ha.len, List.take_length] at hal
          have rows : RowsAt H4 D ((choices m n).filter (hitsAll m)) := ⟨us, hd, hal.mono fun _ _ e => e.2⟩
          have s34 := s3.trans s4
          refine ⟨_, rfl, a, l, rfl, s34.seq hS', hev, hlen, fun H5 p5 s5 h5 => ?_⟩
          refine ⟨_, rfl, _, rfl, _, rfl, b, r, rfl, s5.seq (s34.seq hS2'), hev2, hlen2, fun H6 p6 s6 h6 => ?_⟩
          refine ⟨m, p6, pairs r, rfl, h6, hm5, fun H7 tb s7 h7 => ?_⟩
          refine ⟨p5, D, tb, pairs l, (choices m n).filter (hitsAll m), tab m (pairs r), rfl, (h5.same s6).same s7, ((rows.same s5).same s6).same s7, h7, fits_two hgood, ?_⟩
          refine ⟨(by show 1 ≤ sizeLine; decide), fun p hp => q _ p (SqL.of ?_)⟩
          unfold ontoAns
          rw [if_pos ⟨hG, hG2⟩, onto_cnt]
          exact upd_same
end
end Mc
namespace Mc
open PySem PySem.Spec PyProof.Rows L2
theorem in_int {lo hi z : Int} (h : PySem.W.Codec.inInt lo hi z = true) : lo ≤ z ∧ z ≤ hi := by
  unfold PySem.W.Codec.inInt at h
  rw [Bool.and_eq_true, decide_eq_true_eq, decide_eq_true_eq] at h
  exact h
theorem ints_nats {l : List Int} (h : ∀ z ∈ l, 0 ≤ z) : l.map V.int = (nats l).map vI := by
  unfold nats
  rw [List.map_map]
  refine List.map_congr_left fun z hz => ?_
  have := h z hz
  show V.int z = V.int ((z.toNat : Nat) : Int)
  rw [Int.toNat_of_nonneg this]
/-- what the top has written of a def -/
structure Said (K : PySem.W.Frag) (x : Str) (st : Stmt) (f : Addr) : Prop where
  at' : PySem.W.nsIn K mainGlobals x = some (some (.ref f))
  obj : ∃ (oc : Value) (od : Option Addr) (kV doc pm : Value) (an : Option Addr) (cdv ct : Value) (osl : Array (Option Value)), K.lookup f = some ⟨oc, od, .func (PySem.W.fnOf x x (defArgs st) (defBody st) (defScope st) .none kV doc pm an cdv ct), osl⟩ ∧ PySem.W.codeIn K cdv x = true
  keep : PySem.W.keepIn K (.ref f) = true
theorem said_mk {K : PySem.W.Frag} {x : Str} {st : Stmt} {f : Addr} {oc : Value} {od an : Option Addr} {osl : Array (Option Value)} {kV doc pm cdv ct : Value} (a : PySem.W.nsIn K mainGlobals x = some (some (.ref f)))
    (l : K.lookup f = some ⟨oc, od, .func (PySem.W.fnOf x x (defArgs st) (defBody st) (defScope st) .none kV doc pm an cdv ct), osl⟩) (c : PySem.W.codeIn K cdv x = true) (k : PySem.W.keepIn K (.ref f) = true) : Said K x st f := ⟨a, ⟨oc, od, kV, doc, pm, an, cdv, ct, osl, l, c⟩, k⟩
theorem Said.fun' {K : PySem.W.Frag} {x : Str} {st : Stmt} {f : Addr} (S : Said K x st f) : ∃ fd : FuncData, Fun K x x st f fd := by
  obtain ⟨oc, od, kV, doc, pm, an, cdv, ct, osl, l, c⟩ := S.obj
  exact ⟨_, fun_mk l c S.keep⟩
end Mc
namespace Mc
open PySem PySem.Spec PyProof.Rows L2
theorem all_onto {P : Program} {w : World} {K : PySem.W.Frag} {h : Heap} {mg : Str → Option Value} {fa f1 f2 f3 f4 f5 f6 f7 f8 f9 : Addr} (X : K.In h) (G : h.Ns mainGlobals mg) (hfa : mg "onto" = some (.ref fa))
    {t1 t2 : Tok}
    (S1 : Said K "pairs_of" sPairs f1) (S2 : Said K "is_graph" sIs f2) (S3 : Said K "arrow_table" sTab f3) (S4 : Said K "all_choices" sAll f4) (S5 : Said K "longer_choices" sWid f5) (S6 : Said K "count_maps" sCnt f6) (S7 : Said K "is_map" sMap f7) (S8 : Said K "gives_each" sEach f8) (S9 : Said K "onto" sOn f9)
    (z1 : PySem.W.nsIn K mainGlobals "len" = some none) (z2 : PySem.W.nsIn K mainGlobals "range" = some none)
    (y1 : PySem.W.nsIn K mainGlobals "MOST_PLACES" = some (some (.int 5 t1))) (y2 : PySem.W.nsIn K mainGlobals "NOT_AS_TOLD" = some (some (.int (-22) t2))) :
    ∃ fd : FuncData, (∀ (s : Shared) (us : List Value), us.length = (["n", "m", "first", "second"] : List Str).length → BindsTo s fd ⟨us, []⟩ ((["n", "m", "first", "second"] : List Str).zip us)) ∧ ∀ base : Heap, K.In base → base.Ns mainGlobals mg → FnOk P w K mg base CX0 3 fa fd ["n", "m", "first", "second"] (spOn K) := by
  have e := hfa.symm.trans (PySem.W.mg_of X G S9.at')
  cases e
  obtain ⟨d1, F1⟩ := S1.fun'
  obtain ⟨d2, F2⟩ := S2.fun'
  obtain ⟨d3, F3⟩ := S3.fun'
  obtain ⟨d4, F4⟩ := S4.fun'
  obtain ⟨d5, F5⟩ := S5.fun'
  obtain ⟨d6, F6⟩ := S6.fun'
  obtain ⟨d7, F7⟩ := S7.fun'
  obtain ⟨d8, F8⟩ := S8.fun'
  obtain ⟨oc, od, kV, doc, pm, an, cdv, ct, osl, lE, cE⟩ := S9.obj
  have F9 := fun_mk lE cE S9.keep
  have b1 := F1.binds (ps := ["flat"]) fun _ _ _ _ _ _ us hl => match us, hl with | [_], _ => rfl
  have b2 := F2.binds (ps := ["places", "flat"]) fun _ _ _ _ _ _ us hl => match us, hl with | [_, _], _ => rfl
  have b3 := F3.binds (ps := ["places", "arrows"]) fun _ _ _ _ _ _ us hl => match us, hl with | [_, _], _ => rfl
  have b4 := F4.binds (ps := ["places", "images"]) fun _ _ _ _ _ _ us hl => match us, hl with | [_, _], _ => rfl
  have b5 := F5.binds (ps := ["choices", "images"]) fun _ _ _ _ _ _ us hl => match us, hl with | [_, _], _ => rfl
  have b6 := F6.binds (ps := ["arrows", "choices", "table"]) fun _ _ _ _ _ _ us hl => match us, hl with | [_, _, _], _ => rfl
  have b7 := F7.binds (ps := ["choice", "arrows", "table"]) fun _ _ _ _ _ _ us hl => match us, hl with | [_, _, _], _ => rfl
  have b8 := F8.binds (ps := ["choice", "images"]) fun _ _ _ _ _ _ us hl => match us, hl with | [_, _], _ => rfl
  have g := fun {x : Str} {f : Addr} (a : PySem.W.nsIn K mainGlobals x = some (some (.ref f))) => PySem.W.mg_of X G a
  refine ⟨PySem.W.fnOf "onto" "onto" (defArgs sOn) (defBody sOn) (defScope sOn) .none kV doc pm an cdv ct, fun s us hu => match us, hu with | [_, _, _, _], _ => .of_eq rfl, fun base _ _ => ?_⟩
  exact ok_onto F9 F1 b1 (g S1.at') F2 b2 (g S2.at') F3 b3 (g S3.at') F4 b4 (g S4.at') F5 b5 (g S5.at') F6 b6 (g S6.at') F7 b7 (g S7.at') F8 b8 (g S8.at') (PySem.W.mg_none_of X G z2) (PySem.W.mg_none_of X G z1) (PySem.W.mg_of X G y1) (PySem.W.mg_of X G y2)
end Mc
open PySem PySem.W PyProof.Rows
set_option maxRecDepth 100000 in
set_option maxHeartbeats 8000000 in
theorem PySem.Challenge.cw_mapcounts_s07_onto_holds : PySem.Challenge.rw_mapcounts_s07_onto.Holds := by
  w_on; k_headS; (case hw => exact ⟨[.int 0, .int 0, .list [], .list []], by decide +kernel, by decide +kernel⟩)
  k_fillS
  refine L2.walk_specK (r := PySem.Challenge.rw_mapcounts_s07_onto) (k := 3) (CX := L2.CX0) (ps := ["n", "m", "first", "second"]) (sp := Mc.spOn) (by decide +kernel) rfl rfl ⟨rfl, by decide, by decide⟩ (fun w h Y => PySem.W.kIn_of Y) ?F ?S (fun _ _ _ _ z => z)
  case F =>
    intro w mg fa h Y KX G hmg
    refine' Mc.all_onto KX G hmg (Mc.said_mk ?a1 ?l1 ?c1 ?k1) (Mc.said_mk ?a2 ?l2 ?c2 ?k2) (Mc.said_mk ?a3 ?l3 ?c3 ?k3) (Mc.said_mk ?a4 ?l4 ?c4 ?k4) (Mc.said_mk ?a5 ?l5 ?c5 ?k5) (Mc.said_mk ?a6 ?l6 ?c6 ?k6) (Mc.said_mk ?a7 ?l7 ?c7 ?k7) (Mc.said_mk ?a8 ?l8 ?c8 ?k8) (Mc.said_mk ?a9 ?l9 ?c9 ?k9) ?z1 ?z2 ?y1 ?y2
    (case a1 => k_is); (case l1 => k_is); (case c1 => k_is); (case k1 => k_is)
    (case a2 => k_is); (case l2 => k_is); (case c2 => k_is); (case k2 => k_is)
    (case a3 => k_is); (case l3 => k_is); (case c3 => k_is); (case k3 => k_is)
    (case a4 => k_is); (case l4 => k_is); (case c4 => k_is); (case k4 => k_is)
    (case a5 => k_is); (case l5 => k_is); (case c5 => k_is); (case k5 => k_is)
    (case a6 => k_is); (case l6 => k_is); (case c6 => k_is); (case k6 => k_is)
    (case a7 => k_is); (case l7 => k_is); (case c7 => k_is); (case k7 => k_is)
    (case a8 => k_is); (case l8 => k_is); (case c8 => k_is); (case k8 => k_is)
    (case a9 => k_is); (case l9 => k_is); (case c9 => k_is); (case k9 => k_is)
    (case z1 => k_is); (case z2 => k_is)
    (case y1 => k_is); (case y2 => k_is)
  case S =>
    intro K H xs a hO hwi hask hx
    obtain ⟨n, m, l, r, u⟩ := a
    cases hx with
    | cons h1 h2 =>
      cases h2 with
      | cons h2 h3 =>
        cases h3 with
        | cons h3 h4 =>
          cases h4 with
          | cons h4 h5 =>
            cases h5
            cases h1
            cases h2
            cases h3 with
            | lst hs ha =>
              cases h4 with
              | lst hs2 ha2 =>
                have e := L2.ints_dw l _ ha
                subst e
                have e := L2.ints_dw r _ ha2
                subst e
                have q : (Codec.inInt 0 4294967295 n && (Codec.inInt 0 4294967295 m && ((Codec.inLen 0 60 l && l.all (Codec.inInt 0 4294967295)) && ((Codec.inLen 0 60 r && r.all (Codec.inInt 0 4294967295)) && true)))) = true := hwi
                simp only [Bool.and_eq_true] at q
                obtain ⟨q1, q2, ⟨q3, q4⟩, ⟨q5, q6⟩, _⟩ := q
                have hn := (Mc.in_int q1).1
                have hm := (Mc.in_int q2).1
                have hl : ∀ z ∈ l, 0 ≤ z := fun z hz => (Mc.in_int (List.all_eq_true.mp q4 z hz)).1
                have hr : ∀ z ∈ r, 0 ≤ z := fun z hz => (Mc.in_int (List.all_eq_true.mp q6 z hz)).1
                have hlen := (Codec.inNat_iff.mp q3).2
                have hlen2 := (Codec.inNat_iff.mp q5).2
                rw [Mc.ints_nats hl] at hs
                rw [Mc.ints_nats hr] at hs2
                refine ⟨n.toNat, m.toNat, _, _, Mc.nats l, Mc.nats r, ?_, hs, hs2, ?_, ?_, fun H' p hp => ?_⟩
                · show [L2.V.int n, L2.V.int m, _, _] = [L2.V.int ((n.toNat : Nat) : Int), L2.V.int ((m.toNat : Nat) : Int), _, _]
                  rw [Int.toNat_of_nonneg hn, Int.toNat_of_nonneg hm]
                · unfold Mc.nats
                  rw [List.length_map]
                  exact hlen
                · unfold Mc.nats
                  rw [List.length_map]
                  exact hlen2
                · rw [← Mc.onto_due] at hp
                  exact .lst hp (L2.dw_ints _)
#print axioms PySem.Challenge.cw_mapcounts_s07_onto_holds
