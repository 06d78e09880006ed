import PyProof.Rows.All
import Wide.All
import OpenK.AllK
import Wide.FinOn
import Open.SpecLaws
import KE.OsGo
import HandS.ForSpec
import HandS.Comp
import HandS.Iter
import HandS.Walk
import HandS.Deep
import PySem.Challenge.RW_mapcounts_s04_graph
set_option Elab.async false
set_option linter.all false
set_option maxRecDepth 100000
set_option maxHeartbeats 2000000
namespace Mc
/-! ### sums over places -/
def S (n : Nat) (f : Nat → Nat) : Nat := ((List.range n).map f).sum
theorem S_zero (f : Nat → Nat) : S 0 f = 0 := rfl
theorem S_succ (n : Nat) (f : Nat → Nat) : S (n + 1) f = S n f + f n := by
  unfold S
  rw [List.range_succ, List.map_append, List.sum_append]
  simp
theorem S_congr {n : Nat} {f g : Nat → Nat} (h : ∀ i, i < n → f i = g i) : S n f = S n g := by
  induction n with
  | zero => rfl
  | succ n ih =>
    rw [S_succ, S_succ, ih fun i hi => h i (by omega), h n (by omega)]
theorem S_add (n : Nat) (f g : Nat → Nat) : S n (fun i => f i + g i) = S n f + S n g := by
  induction n with
  | zero => rfl
  | succ n ih =>
    rw [S_succ, S_succ, S_succ, ih]
    omega
theorem S_const0 (n : Nat) : S n (fun _ => 0) = 0 := by
  induction n with
  | zero => rfl
  | succ n ih => rw [S_succ, ih]
theorem S_comm (n m : Nat) (f : Nat → Nat → Nat) : S n (fun i => S m (fun j => f i j)) = S m (fun j => S n (fun i => f i j)) := by
  induction n with
  | zero =>
    rw [S_zero]
    exact (S_const0 m).symm
  | succ n ih =>
    rw [S_succ, ih, ← S_add]
    exact S_congr fun j _ => (S_succ n _).symm
theorem S_point {n a : Nat} (x : Nat → Nat) (h : a < n) : S n (fun i => if i = a then x i else 0) = x a := by
  induction n with
  | zero => omega
  | succ n ih =>
    rw [S_succ]
    by_cases e : n = a
    · subst e
      rw [if_pos rfl]
      have z : S n (fun i => if i = n then x i else 0) = 0 := by
        exact (S_congr (g := fun _ => 0) fun i hi => if_neg (show ¬ i = n by omega)).trans (S_const0 n)
      rw [z]
      omega
    · rw [if_neg e, ih (by omega)]
      rfl
theorem sum_eq_S (l : List Nat) : l.sum = S l.length (fun i => l.getD i 0) := by
  induction l with
  | nil => rfl
  | cons a r ih =>
    have e : S (r.length + 1) (fun i => (a :: r).getD i 0) = a + S r.length (fun i => r.getD i 0) := by
      unfold S
      rw [List.range_succ_eq_map, List.map_cons, List.map_map, List.sum_cons]
      rfl
    show (a :: r).sum = S (r.length + 1) (fun i => (a :: r).getD i 0)
    rw [e, List.sum_cons, ih]
theorem getD_rangeMap {n v : Nat} (f : Nat → Nat) (h : v < n) : ((List.range n).map f).getD v 0 = f v := by
  rw [List.getD_eq_getElem?_getD, List.getElem?_map, List.getElem?_range h]
  rfl
/-! ### a graph as told -/
def pairs : List Nat → List (Nat × Nat)
  | u :: v :: r => (u, v) :: pairs r
  | _ => []
def rank (n : Nat) (p : Nat × Nat) : Nat := p.1 * n + p.2
def risesFrom (n : Nat) : Int → List (Nat × Nat) → Bool
  | _, [] => true
  | last, p :: r => if n ≤ p.1 ∨ n ≤ p.2 then false else if (rank n p : Int) ≤ last then false else risesFrom n (rank n p : Nat) r
def isGraph (n : Nat) (l : List Nat) : Bool := if n < 1 ∨ 5 < n ∨ l.length % 2 = 1 then false else risesFrom n (-1) (pairs l)
theorem rank_lt {n : Nat} {u v u' v' : Nat} (hv : v < n) (hv' : v' < n) : (u < u' ∨ (u = u' ∧ v < v')) ↔ rank n (u, v) < rank n (u', v') := by
  unfold rank
  dsimp only
  constructor
  · rintro (h | ⟨rfl, h⟩)
    · have := Nat.mul_le_mul_right n (show u + 1 ≤ u' from h)
      rw [Nat.succ_mul] at this
      omega
    · omega
  · intro h
    by_cases e : u < u'
    · exact .inl e
    · by_cases e2 : u = u'
      · subst e2
        exact .inr ⟨rfl, by omega⟩
      · have := Nat.mul_le_mul_right n (show u' + 1 ≤ u by omega)
        rw [Nat.succ_mul] at this
        omega
theorem pairsOf_is {n : Nat} : ∀ {l : List Nat} {r : List (Nat × Nat)}, Ks547.pairsOf n l = some r → r = pairs l ∧ l.length % 2 = 0
  | [], r, h => by
    simp only [Ks547.pairsOf] at h
    cases h
    exact ⟨rfl, rfl⟩
  | [_], r, h => by
    simp only [Ks547.pairsOf] at h
    cases h
  | u :: v :: l, r, h => by
    unfold Ks547.pairsOf at h
    split at h
    · cases h
    · split at h
      · cases h
      · rename_i r' e
        obtain ⟨h1, h2⟩ := pairsOf_is e
        have h3 : (u :: v :: l).length % 2 = 0 := by
          simp only [List.length_cons]
          omega
        split at h
        · cases h
          refine ⟨?_, h3⟩
          show [(u, v)] = (u, v) :: pairs l
          rw [← h1]
        · rename_i p q
          split at h
          · cases h
            refine ⟨?_, h3⟩
            show (u, v) :: p :: q = (u, v) :: pairs l
            rw [← h1]
          · cases h
theorem pairsOf_cons (n u v : Nat) (l : List Nat) : Ks547.pairsOf n (u :: v :: l) = (if n ≤ u ∨ n ≤ v then none else match Ks547.pairsOf n l with
    | none => none
    | some r => match r with
      | [] => some [(u, v)]
      | p :: _ => if u < p.1 ∨ (u = p.1 ∧ v < p.2) then some ((u, v) :: r) else none) := by
  rw [Ks547.pairsOf]
  rfl
theorem rises_is {n : Nat} : ∀ (l : List Nat) (last : Int), -1 ≤ last → l.length % 2 = 0 → risesFrom n last (pairs l) = (match Ks547.pairsOf n l with | none => false | some [] => true | some (p :: _) => decide (last < (rank n p : Int)))
  | [], last, _, _ => by
    simp only [Ks547.pairsOf]
    rfl
  | [_], _, _, h => by
    simp at h
  | u :: v :: l, last, hl, h => by
    have hev : l.length % 2 = 0 := by
      simp only [List.length_cons] at h
      omega
    have ih := rises_is (n := n) l (rank n (u, v) : Nat) (by omega) hev
    show (if n ≤ u ∨ n ≤ v then false else if (rank n (u, v) : Int) ≤ last then false else risesFrom n (rank n (u, v) : Nat) (pairs l)) = _
    rw [ih, pairsOf_cons]
    by_cases c : n ≤ u ∨ n ≤ v
    · rw [if_pos c, if_pos c]
    · rw [if_neg c, if_neg c]
      cases e : Ks547.pairsOf n l with
      | none =>
        dsimp only
        split <;> rfl
      | some r =>
        cases r with
        | nil =>
          dsimp only
          by_cases d : (rank n (u, v) : Int) ≤ last
          · rw [if_pos d, decide_eq_false (by omega)]
          · rw [if_neg d, decide_eq_true (by omega)]
        | cons p q =>
          dsimp only
          obtain ⟨pu, pv⟩ := p
          have hp : pu < n ∧ pv < n := by
            have := (pairsOf_is e).1
            match l, e with
            | a :: b :: l', e =>
              have e' := e
              unfold Ks547.pairsOf at e'
              split at e'
              · cases e'
              · rename_i hc
                simp only [pairs, List.cons.injEq, Prod.mk.injEq] at this
                omega
            | [], e => simp [Ks547.pairsOf] at e
            | [_], e => simp [Ks547.pairsOf] at e
          have hlex := rank_lt (n := n) (u := u) (v := v) (u' := pu) (v' := pv) (by omega) hp.2
          by_cases d : (rank n (u, v) : Int) ≤ last
          · rw [if_pos d]
            split
            · rfl
            · rename_i heq
              split at heq <;> cases heq
            · rename_i heq
              split at heq
              · cases heq
                exact (decide_eq_false (by omega)).symm
              · cases heq
          · rw [if_neg d]
            by_cases k : u < pu ∨ (u = pu ∧ v < pv)
            · rw [if_pos k]
              have := hlex.mp k
              show decide _ = decide _
              rw [decide_eq_true (by omega), decide_eq_true (by omega)]
            · rw [if_neg k]
              have : ¬ rank n (u, v) < rank n (pu, pv) := fun z => k (hlex.mpr z)
              show decide _ = false
              rw [decide_eq_false (by omega)]
theorem graphOf_is (n : Nat) (l : List Nat) : Ks547.graphOf n l = if isGraph n l = true then some ⟨n, pairs l⟩ else none := by
  unfold Ks547.graphOf isGraph Ks547.PLACES
  by_cases c : n < 1 ∨ 5 < n
  · rw [if_pos c, if_pos (show n < 1 ∨ 5 < n ∨ l.length % 2 = 1 by omega), if_neg Bool.false_ne_true]
  · rw [if_neg c]
    by_cases o : l.length % 2 = 1
    · rw [if_pos (show n < 1 ∨ 5 < n ∨ l.length % 2 = 1 by omega), if_neg Bool.false_ne_true]
      cases e : Ks547.pairsOf n l with
      | none => rfl
      | some r =>
        have := (pairsOf_is e).2
        omega
    · rw [if_neg (show ¬ (n < 1 ∨ 5 < n ∨ l.length % 2 = 1) by omega), rises_is l (-1) (by omega) (by omega)]
      cases e : Ks547.pairsOf n l with
      | none =>
        dsimp only
        rw [if_neg Bool.false_ne_true]
        rfl
      | some r =>
        have h1 := (pairsOf_is e).1
        cases r with
        | nil =>
          dsimp only
          rw [if_pos rfl, ← h1]
          rfl
        | cons p q =>
          dsimp only
          rw [if_pos (decide_eq_true (by omega)), ← h1]
          rfl
/-! ### what a graph's arrows are -/
structure Good (n : Nat) (ps : List (Nat × Nat)) : Prop where
  inn : ∀ p ∈ ps, p.1 < n ∧ p.2 < n
  nd : ps.Nodup
theorem rises_good {n : Nat} : ∀ {ps : List (Nat × Nat)} {last : Int}, risesFrom n last ps = true → Good n ps ∧ ∀ p ∈ ps, last < (rank n p : Int)
  | [], _, _ => ⟨⟨by simp, List.nodup_nil⟩, by simp⟩
  | p :: r, last, h => by
    unfold risesFrom at h
    split at h
    · cases h
    · rename_i c
      split at h
      · cases h
      · rename_i d
        obtain ⟨g, lt⟩ := rises_good h
        refine ⟨⟨fun q hq => ?_, List.nodup_cons.mpr ⟨fun m => ?_, g.nd⟩⟩, fun q hq => ?_⟩
        · rcases List.mem_cons.mp hq with e | m
          · subst e
            omega
          · exact g.inn q m
        · have := lt p m
          omega
        · rcases List.mem_cons.mp hq with e | m
          · subst e
            omega
          · have := lt q m
            omega
theorem isGraph_good {n : Nat} {l : List Nat} (h : isGraph n l = true) : 1 ≤ n ∧ n ≤ 5 ∧ l.length % 2 = 0 ∧ Good n (pairs l) := by
  unfold isGraph at h
  split at h
  · cases h
  · exact ⟨by omega, by omega, by omega, (rises_good h).1⟩
def nats (l : List Int) : List Nat := l.map Int.toNat
end Mc
namespace Mc
/-! ### maps -/
def tab (n : Nat) (ps : List (Nat × Nat)) : List (List Bool) := (List.range n).map fun u => (List.range n).map fun v => ps.contains (u, v)
def mapOk (ps : List (Nat × Nat)) (T : List (List Bool)) (f : List Nat) : Bool := ps.all fun p => (T.getD (f.getD p.1 0) []).getD (f.getD p.2 0) false
def cnt (ps : List (Nat × Nat)) (L : List (List Nat)) (T : List (List Bool)) : Nat := (L.filter (mapOk ps T)).length
def wider (m : Nat) (L : List (List Nat)) : List (List Nat) := L.flatMap fun r => (List.range m).map fun x => r ++ [x]
def choices (m : Nat) : Nat → List (List Nat)
  | 0 => [[]]
  | k + 1 => wider m (choices m k)
theorem flatMap_flatMap {A B C : Type} (f : A → List B) (g : B → List C) : ∀ l : List A, (l.flatMap f).flatMap g = l.flatMap fun x => (f x).flatMap g
  | [] => rfl
  | x :: r => by
    rw [List.flatMap_cons, List.flatMap_append, flatMap_flatMap f g r, List.flatMap_cons]
theorem flatMap_congr {A B : Type} {f g : A → List B} : ∀ {l : List A}, (∀ x ∈ l, f x = g x) → l.flatMap f = l.flatMap g
  | [], _ => rfl
  | x :: r, h => by
    rw [List.flatMap_cons, List.flatMap_cons, h x (List.mem_cons_self ..), flatMap_congr fun y hy => h y (List.mem_cons_of_mem _ hy)]
theorem flatMap_map_pre {m x : Nat} : ∀ l : List (List Nat), (l.map fun r => x :: r).flatMap (fun r => (List.range m).map fun y => r ++ [y]) = (wider m l).map fun r => x :: r
  | [] => rfl
  | r :: t => by
    have ih := flatMap_map_pre (m := m) (x := x) t
    unfold wider at ih ⊢
    rw [List.map_cons, List.flatMap_cons, ih, List.flatMap_cons, List.map_append, List.map_map]
    rfl
theorem wider_rows (m : Nat) : ∀ k, wider m (Ks547.rows m k) = Ks547.rows m (k + 1)
  | 0 => by
    show wider m [[]] = (List.range m).flatMap fun x => [[x]]
    unfold wider
    rw [List.flatMap_cons, List.flatMap_nil, List.append_nil]
    show ((List.range m).map fun x => [x]) = _
    induction List.range m with
    | nil => rfl
    | cons a r ih => rw [List.map_cons, List.flatMap_cons, ih]; rfl
  | k + 1 => by
    show ((List.range m).flatMap fun x => (Ks547.rows m k).map fun r => x :: r).flatMap (fun r => (List.range m).map fun x => r ++ [x]) = (List.range m).flatMap fun x => (Ks547.rows m (k + 1)).map fun r => x :: r
    rw [flatMap_flatMap]
    refine flatMap_congr fun x _ => ?_
    rw [flatMap_map_pre, wider_rows m k]
theorem choices_rows (m : Nat) : ∀ k, choices m k = Ks547.rows m k
  | 0 => rfl
  | k + 1 => by
    show wider m (choices m k) = _
    rw [choices_rows m k, wider_rows]
theorem rows_mem {m : Nat} : ∀ {k : Nat} {f : List Nat}, f ∈ Ks547.rows m k → f.length = k ∧ ∀ x ∈ f, x < m
  | 0, f, h => by
    have e : f = [] := by simpa [Ks547.rows] using h
    subst e
    exact ⟨rfl, by simp⟩
  | k + 1, f, h => by
    unfold Ks547.rows at h
    obtain ⟨x, hx, hf⟩ := List.mem_flatMap.mp h
    obtain ⟨r, hr, rfl⟩ := List.mem_map.mp hf
    obtain ⟨h1, h2⟩ := rows_mem hr
    refine ⟨by rw [List.length_cons, h1], fun y hy => ?_⟩
    rcases List.mem_cons.mp hy with e | e
    · rw [e]
      exact List.mem_range.mp hx
    · exact h2 y e
theorem wider_len (m : Nat) : ∀ L : List (List Nat), (wider m L).length = L.length * m
  | [] => by simp [wider]
  | r :: t => by
    have ih := wider_len m t
    unfold wider at ih ⊢
    rw [List.flatMap_cons, List.length_append, ih, List.length_map, List.length_range, List.length_cons, Nat.succ_mul]
    omega
theorem choices_len (m : Nat) : ∀ k, (choices m k).length = m ^ k
  | 0 => rfl
  | k + 1 => by
    show (wider m (choices m k)).length = _
    rw [wider_len, choices_len m k, Nat.pow_succ]
theorem choices_mem {m k : Nat} {f : List Nat} (h : f ∈ choices m k) : f.length = k ∧ ∀ x ∈ f, x < m := by
  rw [choices_rows] at h
  exact rows_mem h
theorem getD_lt {f : List Nat} {m i : Nat} (h : ∀ x ∈ f, x < m) (hi : i < f.length) : f.getD i 0 < m := by
  rw [List.getD_eq_getElem?_getD, List.getElem?_eq_getElem hi]
  exact h _ (List.getElem_mem hi)
theorem tab_row {n u : Nat} {ps : List (Nat × Nat)} (h : u < n) : (tab n ps)[u]? = some ((List.range n).map fun v => ps.contains (u, v)) := by
  unfold tab
  rw [List.getElem?_map, List.getElem?_range h]
  rfl
theorem tab_at {n u v : Nat} {ps : List (Nat × Nat)} (hu : u < n) (hv : v < n) : ((tab n ps).getD u []).getD v false = ps.contains (u, v) := by
  have e : (tab n ps).getD u [] = (List.range n).map fun v => ps.contains (u, v) := by
    rw [List.getD_eq_getElem?_getD, tab_row hu]
    rfl
  rw [e, List.getD_eq_getElem?_getD, List.getElem?_map, List.getElem?_range hv]
  rfl
theorem tab_len (n : Nat) (ps : List (Nat × Nat)) : (tab n ps).length = n := by
  unfold tab
  rw [List.length_map, List.length_range]
theorem arrows_in {k a : Nat} {p : Nat × Nat} (h : p ∈ (Ks550.graphAt k a).arrows) : p.1 < k ∧ p.2 < k := by
  unfold Ks550.graphAt at h
  obtain ⟨i, hi, hf⟩ := List.mem_filterMap.mp h
  have hi := List.mem_range.mp hi
  split at hf
  · cases hf
    have hk : 0 < k := by
      cases k with
      | zero => omega
      | succ k => omega
    exact ⟨Nat.div_lt_of_lt_mul hi, Nat.mod_lt _ hk⟩
  · cases hf
theorem count_is (k a n : Nat) (ps : List (Nat × Nat)) : Ks550.count (Ks550.graphAt k a) ⟨n, ps⟩ = cnt (Ks550.graphAt k a).arrows (choices n k) (tab n ps) := by
  unfold Ks550.count Ks547.maps cnt
  rw [choices_rows]
  show ((Ks547.rows n k).filter (Ks547.keeps (Ks550.graphAt k a) ⟨n, ps⟩)).length = _
  congr 1
  refine List.filter_congr fun f hf => ?_
  obtain ⟨h1, h2⟩ := rows_mem hf
  unfold Ks547.keeps mapOk
  have e1 : (f.length == (Ks550.graphAt k a).n) = true := by
    rw [beq_iff_eq]
    exact h1
  have e2 : (f.all fun x => decide (x < n)) = true := List.all_eq_true.mpr fun x hx => decide_eq_true (h2 x hx)
  rw [e1]
  show (true && (f.all fun x => decide (x < n)) && _) = _
  rw [e2, Bool.true_and, Bool.true_and]
  rw [Bool.eq_iff_iff, List.all_eq_true, List.all_eq_true]
  have key : ∀ p ∈ (Ks550.graphAt k a).arrows, ((tab n ps).getD (f.getD p.1 0) []).getD (f.getD p.2 0) false = Ks547.has ⟨n, ps⟩ (f.getD p.1 0) (f.getD p.2 0) := fun p hp => by
    obtain ⟨b1, b2⟩ := arrows_in hp
    exact tab_at (getD_lt h2 (by omega)) (getD_lt h2 (by omega))
  constructor
  · intro h p hp
    rw [key p hp]
    exact h p hp
  · intro h p hp
    rw [← key p hp]
    exact h p hp
/-! ### a graph by its number -/
def upTo (k a j : Nat) : List (Nat × Nat) := (List.range j).filterMap fun i => if a.testBit i then some (i / k, i % k) else none
theorem upTo_all (k a : Nat) : upTo k a (k * k) = (Ks550.graphAt k a).arrows := rfl
theorem upTo_succ (k a j : Nat) : upTo k a (j + 1) = upTo k a j ++ if a.testBit j then [(j / k, j % k)] else [] := by
  unfold upTo
  rw [List.range_succ, List.filterMap_append]
  congr 1
  by_cases h : a.testBit j = true
  · simp [h]
  · simp [h]
theorem upTo_len (k a j : Nat) : (upTo k a j).length ≤ j := by
  unfold upTo
  exact Nat.le_trans (List.length_filterMap_le _ _) (by rw [List.length_range]; exact Nat.le_refl _)
theorem bit_at (a j : Nat) : a.testBit j = decide (a / 2 ^ j % 2 = 1) := by
  rw [Nat.testBit_eq_decide_div_mod_eq]
/-! ### the first that tells them apart -/
theorem find_range {p : Nat → Bool} {n i : Nat} (hi : i < n) (h : ∀ j, j < i → p j = false) (hp : p i = true) : (List.range n).find? p = some i := by
  induction n with
  | zero => omega
  | succ n ih =>
    rw [List.range_succ, List.find?_append]
    by_cases e : i < n
    · rw [ih e]
      rfl
    · have e2 : i = n := by omega
      subst e2
      have z : (List.range i).find? p = none := by
        rw [List.find?_eq_none]
        intro x hx
        rw [h x (List.mem_range.mp hx)]
        exact Bool.false_ne_true
      rw [z]
      simp [hp]
theorem find_none {p : Nat → Bool} {n : Nat} (h : ∀ j, j < n → p j = false) : (List.range n).find? p = none := by
  rw [List.find?_eq_none]
  intro x hx
  rw [h x (List.mem_range.mp hx)]
  exact Bool.false_ne_true
theorem some_range {A : Type} {F : Nat → Option A} {n i : Nat} {r : A} (hi : i < n) (h : ∀ j, j < i → F j = none) (hp : F i = some r) : (List.range n).findSome? F = some r := by
  induction n with
  | zero => omega
  | succ n ih =>
    rw [List.range_succ, List.findSome?_append]
    by_cases e : i < n
    · rw [ih e]
      rfl
    · have e2 : i = n := by omega
      subst e2
      have z : (List.range i).findSome? F = none := by
        rw [List.findSome?_eq_none_iff]
        intro x hx
        exact h x (List.mem_range.mp hx)
      rw [z]
      simp [hp]
theorem some_none {A : Type} {F : Nat → Option A} {n : Nat} (h : ∀ j, j < n → F j = none) : (List.range n).findSome? F = none := by
  rw [List.findSome?_eq_none_iff]
  intro x hx
  exact h x (List.mem_range.mp hx)
/-- how many maps there are from the graph of k places with number a into the one of n places with the arrows ps -/
def inTo (k a n : Nat) (ps : List (Nat × Nat)) : Nat := cnt (Ks550.graphAt k a).arrows (choices n k) (tab n ps)
def apartO (k n : Nat) (ps : List (Nat × Nat)) (m : Nat) (qs : List (Nat × Nat)) : Option (List Nat) :=
  ((List.range (2 ^ (k * k))).find? fun a => inTo k a n ps != inTo k a m qs).map fun a => [k, a, inTo k a n ps, inTo k a m qs]
def differAns (n m : Nat) (l r : List Nat) : List Int :=
  if isGraph n l = true ∧ isGraph m r = true then
    (if 3 < max n m then [-75] else match (List.range (max n m)).findSome? fun i => apartO (i + 1) n (pairs l) m (pairs r) with
      | none => [-6]
      | some x => x.map Int.ofNat)
  else [-22]
theorem findSome_map {A B C : Type} (f : A → Option B) (g : B → C) : ∀ l : List A, (l.findSome? f).map g = l.findSome? fun x => (f x).map g
  | [] => rfl
  | x :: r => by
    rw [List.findSome?_cons, List.findSome?_cons]
    cases e : f x with
    | none =>
      dsimp only [Option.map_none]
      exact findSome_map f g r
    | some y => rfl
theorem differ_due (n m : Int) (first second : List Int) : PyKs550.differ n m first second = differAns n.toNat m.toNat (nats first) (nats second) := by
  show Ks550Neutral.out (Ks550.answer (.differ n.toNat m.toNat (nats first) (nats second))) = _
  generalize n.toNat = n
  generalize m.toNat = m
  generalize nats first = l
  generalize nats second = r
  unfold Ks550.answer Ks547.two Ks547.graph differAns
  dsimp only
  rw [graphOf_is, graphOf_is]
  by_cases c : isGraph n l = true
  · rw [if_pos c]
    dsimp only
    by_cases d : isGraph m r = true
    · rw [if_pos d, if_pos (And.intro c d)]
      dsimp only
      by_cases e : Ks550.FEW < n ∨ Ks550.FEW < m
      · have e' : 3 < max n m := by
          have : (3 : Nat) < n ∨ (3 : Nat) < m := e
          omega
        rw [if_pos e, if_pos e']
        rfl
      · have e' : ¬ 3 < max n m := by
          have : ¬ ((3 : Nat) < n ∨ (3 : Nat) < m) := e
          omega
        rw [if_neg e, if_neg e']
        have key : ((Ks550.differ ⟨n, pairs l⟩ ⟨m, pairs r⟩ (max n m)).map fun (p : Nat × Nat) => [p.1, p.2, Ks550.count (Ks550.graphAt p.1 p.2) ⟨n, pairs l⟩, Ks550.count (Ks550.graphAt p.1 p.2) ⟨m, pairs r⟩])
            = (List.range (max n m)).findSome? fun i => apartO (i + 1) n (pairs l) m (pairs r) := by
          unfold Ks550.differ
          rw [findSome_map]
          congr 1
          funext i
          unfold apartO
          rw [Option.map_map]
          unfold inTo
          simp only [count_is]
          rfl
        rw [← key]
        cases Ks550.differ ⟨n, pairs l⟩ ⟨m, pairs r⟩ (max n m) with
        | none => rfl
        | some p => rfl
    · rw [if_neg d, if_neg (show ¬ (isGraph n l = true ∧ isGraph m r = true) from fun z => d z.2)]
      rfl
  · rw [if_neg c, if_neg (show ¬ (isGraph n l = true ∧ isGraph m r = true) from fun z => c z.1)]
    rfl
end Mc
namespace Mc
/-! ### a graph told by its number -/
def flat (ps : List (Nat × Nat)) : List Nat := ps.flatMap fun p => [p.1, p.2]
theorem flat_snoc (ps : List (Nat × Nat)) (p : Nat × Nat) : flat (ps ++ [p]) = flat ps ++ [p.1, p.2] := by
  unfold flat
  rw [List.flatMap_append]
  rfl
theorem flat_len : ∀ ps : List (Nat × Nat), (flat ps).length = 2 * ps.length
  | [] => rfl
  | p :: r => by
    have ih := flat_len r
    unfold flat at ih ⊢
    rw [List.flatMap_cons, List.length_append, ih, List.length_cons, List.length_cons, List.length_cons, List.length_nil]
    omega
def graphAns (k a : Nat) : List Int := if 1 ≤ k ∧ k ≤ 3 ∧ a < 2 ^ (k * k) then ((Ks550.graphAt k a).arrows.length :: flat (Ks550.graphAt k a).arrows).map Int.ofNat else [-22]
theorem graph_due (k a : Int) : PyKs550.graph k a = graphAns k.toNat a.toNat := by
  show Ks550Neutral.out (Ks550.answer (.graph k.toNat a.toNat)) = _
  generalize k.toNat = k
  generalize a.toNat = a
  unfold Ks550.answer graphAns
  dsimp only
  by_cases c : k < 1 ∨ Ks550.FEW < k ∨ 2 ^ (k * k) ≤ a
  · rw [if_pos c, if_neg]
    · rfl
    · rintro ⟨z1, z2, z3⟩
      rcases c with c | c | c
      · omega
      · have : 3 < k := c
        omega
      · exact Nat.lt_irrefl _ (Nat.lt_of_lt_of_le z3 c)
  · rw [if_neg c, if_pos]
    · rfl
    · refine ⟨Nat.le_of_not_lt fun z => c (.inl z), Nat.le_of_not_lt fun z => c (.inr (.inl z)), Nat.lt_of_not_le fun z => c (.inr (.inr z))⟩
end Mc
namespace Mc
open PySem PySem.Spec PyProof.Rows L2
/-! ### lists by places -/
inductive Al2 {A B : Type} (R : A → B → Prop) : List A → List B → Prop
  | nil : Al2 R [] []
  | cons {x : A} {y : B} {xs : List A} {ys : List B} : R x y → Al2 R xs ys → Al2 R (x :: xs) (y :: ys)
section
variable {A B : Type} {R R' : A → B → Prop}
theorem Al2.len : ∀ {xs : List A} {ys : List B}, Al2 R xs ys → xs.length = ys.length
  | _, _, .nil => rfl
  | _, _, .cons _ t => congrArg (· + 1) t.len
theorem Al2.mono (h : ∀ x y, R x y → R' x y) : ∀ {xs : List A} {ys : List B}, Al2 R xs ys → Al2 R' xs ys
  | _, _, .nil => .nil
  | _, _, .cons a t => .cons (h _ _ a) (t.mono h)
theorem Al2.at : ∀ {xs : List A} {ys : List B} {i : Nat} {x : A}, Al2 R xs ys → xs[i]? = some x → ∃ y, ys[i]? = some y ∧ R x y
  | _, _, _, _, .nil, h => by simp at h
  | _, _, 0, _, .cons a _, h => ⟨_, rfl, by cases h; exact a⟩
  | _, _, i + 1, _, .cons _ t, h => t.at (i := i) h
theorem Al2.at2 : ∀ {xs : List A} {ys : List B} {i : Nat} {y : B}, Al2 R xs ys → ys[i]? = some y → ∃ x, xs[i]? = some x ∧ R x y
  | _, _, _, _, .nil, h => by simp at h
  | _, _, 0, _, .cons a _, h => ⟨_, rfl, by cases h; exact a⟩
  | _, _, i + 1, _, .cons _ t, h => t.at2 (i := i) h
theorem Al2.snoc : ∀ {xs : List A} {ys : List B} {x : A} {y : B}, Al2 R xs ys → R x y → Al2 R (xs ++ [x]) (ys ++ [y])
  | _, _, _, _, .nil, r => .cons r .nil
  | _, _, _, _, .cons a t, r => .cons a (t.snoc r)
end
theorem take_snoc {A : Type} {l : List A} {i : Nat} {x : A} (h : l[i]? = some x) : l.take (i + 1) = l.take i ++ [x] := by
  rw [List.take_add_one, h]
  rfl
/-! ### the heap -/
def vI (n : Nat) : V := .int (n : Int)
def tp (p : Nat × Nat) : List V := [vI p.1, vI p.2]
theorem same_upd {H : Hp} {p : Addr} {o : HO} (h : H p = none) : Same H (upd H p o) := fun b x e => by
  rw [upd_ne (ne_of_none e h)]
  exact e
/-- what was tracked ahead of D's making is as it was -/
theorem same_past {H H' : Hp} {D : Addr} {o : HO} (s : Same H H') (h : H D = none) : Same H (upd H' D o) := fun b x e => by
  rw [upd_ne (ne_of_none e h)]
  exact s b x e
theorem same_t {K : PySem.W.Frag} {H H' : Hp} {a : Addr} {xs : List V} (e : Same H H') (h : SqT K H a xs) : SqT K H' a xs := by
  rcases h with (h | ⟨o, h⟩) | h
  · exact .inl (.inl (e _ _ h))
  · exact .inl (.inr ⟨o, e _ _ h⟩)
  · exact .inr h
/-- a list of pairs -/
def PairsAt (K : PySem.W.Frag) (H : Hp) (a : Addr) (ps : List (Nat × Nat)) : Prop := ∃ ts : List Addr, SqL K H a (ts.map V.ref) ∧ Al2 (fun t p => SqT K H t (tp p)) ts ps
theorem PairsAt.same {K : PySem.W.Frag} {H H' : Hp} {a : Addr} {ps : List (Nat × Nat)} (e : Same H H') (h : PairsAt K H a ps) : PairsAt K H' a ps := by
  obtain ⟨ts, h1, h2⟩ := h
  exact ⟨ts, e.seq h1, h2.mono fun _ _ q => same_t e q⟩
theorem ref_at {ts : List Addr} {i : Nat} {x : V} (h : (ts.map V.ref)[i]? = some x) : ∃ t, ts[i]? = some t ∧ x = .ref t := by
  rw [List.getElem?_map] at h
  cases e : ts[i]? with
  | none =>
    rw [e] at h
    cases h
  | some t =>
    rw [e] at h
    exact ⟨t, rfl, (Option.some.inj h).symm⟩
theorem vI_at {l : List Nat} {i n : Nat} (h : l[i]? = some n) : (l.map vI)[i]? = some (vI n) := by
  rw [List.getElem?_map, h]
  rfl
theorem iteD {c : Prop} [Decidable c] {A B : Prop} (h1 : c → A) (h2 : ¬ c → B) : if decide c = true then A else B := by
  by_cases h : c
  · rw [if_pos (decide_eq_true h)]
    exact h1 h
  · rw [decide_eq_false h, if_neg Bool.false_ne_true]
    exact h2 h
theorem small_line {n : Nat} (h : n ≤ 100000) : n < sizeLine := Nat.lt_of_le_of_lt h (by decide)
theorem sum_nat : ∀ l : List Nat, (l.map Int.ofNat).sum = ((l.sum : Nat) : Int)
  | [] => rfl
  | x :: r => by
    rw [List.map_cons, List.sum_cons, List.sum_cons, sum_nat r, Int.natCast_add]
    rfl
/-! ### pairs -/
theorem pairs_len : ∀ l : List Nat, (pairs l).length = l.length / 2
  | [] => rfl
  | [_] => by
    show 0 = 1 / 2
    rfl
  | u :: v :: r => by
    show (pairs r).length + 1 = (r.length + 1 + 1) / 2
    rw [pairs_len r]
    omega
theorem pairs_get : ∀ {l : List Nat} {i u v : Nat}, l[2 * i]? = some u → l[2 * i + 1]? = some v → (pairs l)[i]? = some (u, v)
  | [], _, _, _, h, _ => by simp at h
  | [_], 0, _, _, _, h => by simp at h
  | [_], i + 1, _, _, h, _ => by
    rw [show 2 * (i + 1) = 2 * i + 1 + 1 by omega] at h
    simp at h
  | a :: b :: r, 0, u, v, h, h2 => by
    have e1 : a = u := Option.some.inj h
    have e2 : b = v := Option.some.inj h2
    rw [← e1, ← e2]
    rfl
  | a :: b :: r, i + 1, u, v, h, h2 => by
    rw [show 2 * (i + 1) = 2 * i + 1 + 1 by omega] at h h2
    exact pairs_get (l := r) (i := i) h h2
theorem rg2 (m : Nat) (hm : m ≤ 30) : RgC 0 ((2 * m : Nat) : Int) 2 m := by
  have h : ∀ m : Fin 31, (Builtin.Range.small 0 ((2 * m.val : Nat) : Int) 2 = true ∧ Builtin.Range.rangeSize 0 ((2 * m.val : Nat) : Int) 2 = m.val) := by decide +kernel
  have := h ⟨m, by omega⟩
  exact ⟨by decide, by decide, this.1, this.2⟩
end Mc
namespace Mc
open PySem PySem.Spec PyProof.Rows L2
def topS (i : Nat) : Stmt := PySem.Challenge.pw_mapcounts_s04_graph.main.body.getD i (.Pass ⟨0, 0, 0, 0⟩)
end Mc
namespace Mc
open PySem PySem.Spec PyProof.Rows L2
abbrev sHow : Stmt := topS 3
theorem scHow : FnScope ["places", "total", "rank"] ["places"] (defScope sHow) := ⟨rfl, rfl, rfl, by decide +kernel, rfl, by decide +kernel, by decide +kernel⟩
section
variable {P : Program} {w : World} {K : PySem.W.Frag} {mg : Str → Option Value} {base : Heap}
def spHow : Sp := fun vs H Q _ => ∃ k : Nat, vs = [vI k] ∧ k ≤ 5 ∧ Q (vI (2 ^ (k * k))) H
theorem ok_how {f : Addr} {fd : FuncData} {k : Nat} (F : Fun K "how_many_graphs" "how_many_graphs" sHow f fd) (mr : mg "range" = none) : FnOk P w K mg base CX0 (k + 1) f fd ["places"] spHow := by
  refine F.ok scHow (fun vs H Q E h => ?_) (fun cdv A outer s H vs Q E hr h => ?_)
  · obtain ⟨k, rfl, _⟩ := h
    rfl
  · obtain ⟨k, rfl, hk, q⟩ := h
    refine ⟨_, pss_cons (ps_set (i := 1) scHow.nd rfl (.inl rfl) pe_int)
      (pss_cons (ps_for PassesOwn.never rfl (pi_range1 rfl mr (pa_cons (pe_op op_mul (pv 0) (pv 0)) pa_nil)) (pg_name (i := 2) scHow.nd rfl (.inl rfl))
        (pss_one (ps_set (i := 1) scHow.nd rfl (.inl rfl) (pe_op op_mul (pv 1) pe_int))))
      (pss_one (ps_ret (pv 1)))), ?_⟩
    have hkk : k * k ≤ 25 := Nat.mul_le_mul hk hk
    refine ⟨_, rfl, _, rfl, _, _, rfl, rfl, .inl ⟨by omega, by omega⟩, ((k * k : Nat) : Int), ?_, by omega, by omega, for_range (lo := 0) (n := k * k) (fun i σ H' => ∃ y2 : Option V, σ = [some (vI k), some (vI (2 ^ i)), y2] ∧ H' = H) ⟨none, rfl, rfl⟩ ?_ ?_⟩
    · show [V.int ((k : Int) * (k : Int))] = [V.int ((k * k : Nat) : Int)]
      rw [Int.natCast_mul]
    · rintro i σ H' hi ⟨y2, rfl, rfl⟩
      refine ⟨_, rfl, _, _, rfl, rfl, .inr ⟨by decide, by decide⟩, some (V.int (0 + (i : Int))), ?_, rfl⟩
      show [some (vI k), some (V.int (((2 ^ i : Nat) : Int) * 2)), some (V.int (0 + (i : Int)))] = [some (vI k), some (V.int ((2 ^ (i + 1) : Nat) : Int)), some (V.int (0 + (i : Int)))]
      rw [Nat.pow_succ, Int.natCast_mul]
      rfl
    · rintro σ H' ⟨y2, rfl, rfl⟩
      exact ⟨_, rfl, q⟩
end
end Mc
namespace Mc
open PySem PySem.Spec PyProof.Rows L2
abbrev sNum : Stmt := topS 4
theorem scNum : FnScope ["places", "told", "arrows", "rest", "start", "end"] ["places", "told"] (defScope sNum) := ⟨rfl, rfl, rfl, by decide +kernel, rfl, by decide +kernel, by decide +kernel⟩
section
variable {P : Program} {w : World} {K : PySem.W.Frag} {mg : Str → Option Value} {base : Heap}
def spNum (K : PySem.W.Frag) : Sp := fun vs H Q _ => ∃ k a : Nat, vs = [vI k, vI a] ∧ k ≤ 5 ∧ ∀ H' p, Same H H' → PairsAt K H' p (Ks550.graphAt k a).arrows → Q (.ref p) H'
theorem ok_num {f : Addr} {fd : FuncData} {lv : Nat} (F : Fun K "arrows_by_number" "arrows_by_number" sNum f fd) (mr : mg "range" = none) : FnOk P w K mg base CX0 (lv + 1) f fd ["places", "told"] (spNum K) := by
  refine F.ok scNum (fun vs H Q E h => ?_) (fun cdv A outer s H vs Q E hr h => ?_)
  · obtain ⟨k, a, rfl, _⟩ := h
    rfl
  · obtain ⟨k, a, rfl, hk, q⟩ := h
    refine ⟨_, pss_cons (ps_set (i := 2) scNum.nd rfl (.inl rfl) (pe_lst pa_nil))
      (pss_cons (ps_set (i := 3) scNum.nd rfl (.inl rfl) (pv 1))
      (pss_cons (ps_for PassesOwn.never rfl (pi_range1 rfl mr (pa_cons (pv 0) pa_nil)) (pg_name (i := 4) scNum.nd rfl (.inl rfl))
        (pss_one (ps_for PassesOwn.never rfl (pi_range1 rfl mr (pa_cons (pv 0) pa_nil)) (pg_name (i := 5) scNum.nd rfl (.inl rfl))
          (pss_cons (ps_if (pt_cmpR op_eq (pe_op op_mod (pv 3) pe_int) pe_int (nomark _))
              (pss_one (ps_expr (pe_bm PySem.F.plainAttrs_list PySem.F.slot_list_append PySem.F.type_list_append mt_append (pv 2) (pa_cons (pe_tup (pa_cons (pv 4) (pa_cons (pv 5) pa_nil))) pa_nil)))) pss_nil)
          (pss_one (ps_set (i := 3) scNum.nd rfl (.inl rfl) (pe_op op_fdiv (pv 3) pe_int)))))))
      (pss_one (ps_ret (pv 2))))), ?_⟩
    refine ⟨Nat.zero_le _, fun D hD => ?_⟩
    have hkk : k * k ≤ 25 := Nat.mul_le_mul hk hk
    refine ⟨_, rfl, _, rfl, (k : Int), rfl, by omega, by omega, for_range (lo := 0) (n := k)
      (fun i σ H' => ∃ (y4 y5 : Option V) (ts : List Addr), σ = [some (vI k), some (vI a), some (.ref D), some (vI (a / 2 ^ (i * k))), y4, y5] ∧ Same H H' ∧ H' D = some (.lst (ts.map V.ref)) ∧ Al2 (fun t p => H' t = some (.tup (tp p))) ts (upTo k a (i * k)))
      ⟨none, none, [], ?_, same_upd hD, upd_same, ?_⟩ ?_ ?_⟩
    · rw [Nat.zero_mul, Nat.pow_zero, Nat.div_one]
      rfl
    · rw [Nat.zero_mul]
      exact .nil
    · rintro i σ H1 hi ⟨y4, y5, ts, rfl, s1, hd, ha⟩
      refine ⟨_, rfl, (k : Int), rfl, by omega, by omega, for_range (lo := 0) (n := k)
        (fun j σ H' => ∃ (y5 : Option V) (ts : List Addr), σ = [some (vI k), some (vI a), some (.ref D), some (vI (a / 2 ^ (i * k + j))), some (vI i), y5] ∧ Same H H' ∧ H' D = some (.lst (ts.map V.ref)) ∧ Al2 (fun t p => H' t = some (.tup (tp p))) ts (upTo k a (i * k + j)))
        ⟨y5, ts, ?_, s1, hd, ha⟩ ?_ ?_⟩
      · show [some (vI k), some (vI a), some (.ref D), some (vI (a / 2 ^ (i * k))), some (V.int (0 + (i : Int))), y5] = _
        rw [Int.zero_add]
        rfl
      · rintro j σ H2 hj ⟨y5, ts, rfl, s2, hd2, ha2⟩
        have hik : i * k + k ≤ k * k := by
          have := Nat.mul_le_mul_right k (show i + 1 ≤ k from hi)
          rw [Nat.succ_mul] at this
          exact this
        have e1 : (i * k + j) / k = i := by
          rw [Nat.mul_comm, Nat.mul_add_div (by omega), Nat.div_eq_of_lt hj]
          rfl
        have e2 : (i * k + j) % k = j := by
          rw [Nat.mul_comm, Nat.mul_add_mod, Nat.mod_eq_of_lt hj]
        have e3 : a / 2 ^ (i * k + (j + 1)) = a / 2 ^ (i * k + j) / 2 := by
          rw [← Nat.add_assoc, Nat.pow_succ, Nat.div_div_eq_div_mul]
        have up := upTo_succ k a (i * k + j)
        rw [e1, e2, bit_at] at up
        have hj0 : V.int (0 + (j : Int)) = vI j := by rw [Int.zero_add]; rfl
        refine ⟨_, rfl, _, _, rfl, rfl, (by show (0 : Int) < 2; decide), rfl, _, rfl, iteD (fun c => ?_) (fun c => ?_)⟩
        · have c : ((a / 2 ^ (i * k + j) : Nat) : Int) % 2 = 1 := V.int.inj c
          have c' : a / 2 ^ (i * k + j) % 2 = 1 := by omega
          rw [decide_eq_true c', if_pos rfl] at up
          refine ⟨_, rfl, .inl ⟨rfl, _, SqL.of hd2⟩, _, rfl, _, rfl, (by show 2 ≤ sizeLine; decide), fun T nT => ?_⟩
          have nDT : D ≠ T := ne_of_none hd2 nT
          refine ⟨D, ts.map V.ref, _, rfl, rfl, ?_, ?_, ?_⟩
          · rw [upd_ne nDT]
            exact hd2
          · rw [List.length_map, ha2.len]
            exact small_line (Nat.le_trans (upTo_len _ _ _) (by omega))
          · refine ⟨_, rfl, _, _, rfl, rfl, ⟨by decide, by decide⟩, some (V.int (0 + (j : Int))), ts ++ [T], ?_, same_past (s2.trans (same_upd nT)) hD, ?_, ?_⟩
            · show [some (vI k), some (vI a), some (.ref D), some (V.int (((a / 2 ^ (i * k + j) : Nat) : Int) / 2)), some (vI i), some (V.int (0 + (j : Int)))] = [some (vI k), some (vI a), some (.ref D), some (vI (a / 2 ^ (i * k + (j + 1)))), some (vI i), some (V.int (0 + (j : Int)))]
              rw [e3]
              rfl
            · rw [upd_same, List.map_append]
              rfl
            · show Al2 _ _ (upTo k a (i * k + j + 1))
              rw [up]
              refine Al2.snoc (ha2.mono fun t p e => ?_) ?_
              · rw [upd_ne (ne_of e hd2 (by intro z; cases z)), upd_ne (ne_of_none e nT)]
                exact e
              · rw [upd_ne (Ne.symm nDT), upd_same, hj0]
                rfl
        · have c' : ¬ a / 2 ^ (i * k + j) % 2 = 1 := fun z => c (congrArg V.int (by show ((a / 2 ^ (i * k + j) : Nat) : Int) % 2 = 1; omega))
          rw [decide_eq_false c', if_neg Bool.false_ne_true, List.append_nil] at up
          refine ⟨_, rfl, _, _, rfl, rfl, ⟨by decide, by decide⟩, some (V.int (0 + (j : Int))), ts, ?_, s2, hd2, ?_⟩
          · show [some (vI k), some (vI a), some (.ref D), some (V.int (((a / 2 ^ (i * k + j) : Nat) : Int) / 2)), some (vI i), some (V.int (0 + (j : Int)))] = [some (vI k), some (vI a), some (.ref D), some (vI (a / 2 ^ (i * k + (j + 1)))), some (vI i), some (V.int (0 + (j : Int)))]
            rw [e3]
            rfl
          · show Al2 _ _ (upTo k a (i * k + j + 1))
            rw [up]
            exact ha2
      · rintro σ H2 ⟨y5, ts, rfl, s2, hd2, ha2⟩
        rw [← Nat.succ_mul] at ha2
        refine ⟨some (vI i), y5, ts, ?_, s2, hd2, ha2⟩
        rw [Nat.succ_mul]
    · rintro σ H1 ⟨y4, y5, ts, rfl, s1, hd, ha⟩
      refine ⟨_, rfl, q H1 D s1 ⟨ts, SqL.of hd, ?_⟩⟩
      rw [upTo_all] at ha
      exact ha.mono fun t p e => SqT.of e
end
end Mc
namespace Mc
open PySem PySem.Spec PyProof.Rows L2
abbrev sGraph : Stmt := topS 5
theorem scG : FnScope ["k", "a", "arrows", "answer", "start", "end"] ["k", "a"] (defScope sGraph) := ⟨rfl, rfl, rfl, by decide +kernel, rfl, by decide +kernel, by decide +kernel⟩
section
variable {P : Program} {w : World} {K : PySem.W.Frag} {mg : Str → Option Value} {base : Heap}
def spGraph (K : PySem.W.Frag) : Sp := fun vs H Q _ => ∃ (k a : Nat), vs = [vI k, vI a] ∧ ∀ H' p, SqL K H' p ((graphAns k a).map V.int) → Q (.ref p) H'
theorem ok_graph {f fH fN : Addr} {fd fdH fdN : FuncData} (F : Fun K "graph" "graph" sGraph f fd) (FH : Fun K "how_many_graphs" "how_many_graphs" sHow fH fdH) (bH : Binds K fdH ["places"] []) (gH : mg "how_many_graphs" = some (.ref fH))
    (FN : Fun K "arrows_by_number" "arrows_by_number" sNum fN fdN) (bN : Binds K fdN ["places", "told"] []) (gN : mg "arrows_by_number" = some (.ref fN))
    (mr : mg "range" = none) (ml : mg "len" = none) {t3 t22 : Tok} (g3 : mg "MOST_PLACES_BY_NUMBER" = some (.int 3 t3)) (g22 : mg "NOT_AS_TOLD" = some (.int (-22) t22)) :
    FnOk P w K mg base CX0 2 f fd ["k", "a"] (spGraph K) := by
  have GH : FnOk P w K mg base CX0 1 fH fdH ["places"] spHow := ok_how FH mr
  have GN : FnOk P w K mg base CX0 1 fN fdN ["places", "told"] (spNum K) := ok_num FN mr
  refine F.ok scG (fun vs H Q E h => ?_) (fun cdv A outer s H vs Q E hr h => ?_)
  · obtain ⟨k, a, rfl, _⟩ := h
    rfl
  · obtain ⟨k, a, rfl, q⟩ := h
    refine ⟨_, pss_cons (ps_if (PW.pt (pw_or (pt_cmpR op_lt (pv 0) pe_int (nomark _)) (pw_or (pt_cmpR op_gt (pv 0) (pe_glob (v := .int 3) rfl g3 ⟨_, rfl⟩) (nomark _)) (pw_or1 (pt_cmpR op_ge (pv 1) (pe_call GH hr (by rfl) gH FH.kp bH .nil pass0 (pa_cons (pv 0) pa_nil)) (nomark _))))))
        (pss_one (ps_ret (pe_lst (pa_cons (pe_glob (v := .int (-22)) rfl g22 ⟨_, rfl⟩) pa_nil)))) pss_nil)
      (pss_cons (ps_set (i := 2) scG.nd rfl (.inl rfl) (pe_call GN hr (by rfl) gN FN.kp bN .nil pass0 (pa_cons (pv 0) (pa_cons (pv 1) pa_nil))))
      (pss_cons (ps_set (i := 3) scG.nd rfl (.inl rfl) (pe_lst (pa_cons (pe_callB call_len_seq (by rfl) ml PySem.boot_len (pa_cons (pv 2) pa_nil)) pa_nil)))
      (pss_cons (ps_for PassesOwn.never rfl (pi_list (pv 2)) (pg_tup rfl (pgs_cons (pg_name (i := 4) scG.nd rfl (.inl rfl)) (pgs_cons (pg_name (i := 5) scG.nd rfl (.inl rfl)) pgs_nil)))
        (pss_one (ps_expr (pe_bm PySem.F.plainAttrs_list PySem.F.slot_list_extend PySem.F.type_list_extend mt_extend (pv 3) (pa_cons (pe_lst (pa_cons (pv 4) (pa_cons (pv 5) pa_nil))) pa_nil)))))
      (pss_one (ps_ret (pv 3)))))), ?_⟩
    have bad : ¬ (1 ≤ k ∧ k ≤ 3 ∧ a < 2 ^ (k * k)) → ∀ H2 : Hp, tRet (tLst (tCons (tC (V.int (-22))) tNil)) { nx := fun _ _ => True, rt := Q } [] H2 := fun z H2 => by
      refine ⟨(by show 1 ≤ sizeLine; decide), fun p hp => q _ p (SqL.of ?_)⟩
      unfold graphAns
      rw [if_neg z]
      exact upd_same
    refine ⟨_, rfl, _, _, rfl, rfl, _, rfl, iteD (fun c1 => ?_) (fun c1 => ?_)⟩
    · exact bad (fun z => by have := z.1; omega) H
    refine ⟨_, rfl, _, _, rfl, rfl, _, rfl, iteD (fun c2 => ?_) (fun c2 => ?_)⟩
    · exact bad (fun z => by have := z.2.1; omega) H
    have hk1 : 1 ≤ k := by omega
    have hk3 : k ≤ 3 := by omega
    refine ⟨_, rfl, _, rfl, k, rfl, by omega, _, _, rfl, rfl, _, rfl, iteD (fun c3 => ?_) (fun c3 => ?_)⟩
    · exact bad (fun z => Nat.lt_irrefl _ (Nat.lt_of_lt_of_le z.2.2 (Int.ofNat_le.mp c3))) H
    have ha : a < 2 ^ (k * k) := Nat.lt_of_not_le fun z => c3 (Int.ofNat_le.mpr z)
    have q' : ∀ H' p, SqL K H' p (((Ks550.graphAt k a).arrows.length :: flat (Ks550.graphAt k a).arrows).map vI) → Q (.ref p) H' := fun H' p h => q H' p (by
      unfold graphAns
      rw [if_pos ⟨hk1, hk3, ha⟩, List.map_map]
      exact h)
    refine ⟨_, rfl, _, rfl, k, a, rfl, by omega, fun H1 p1 s1 hP => ?_⟩
    obtain ⟨ts, hts, hal⟩ := hP
    refine ⟨_, rfl, p1, ts.map V.ref, rfl, .inl hts, (by show 1 ≤ sizeLine; decide), fun D hD => ?_⟩
    rw [List.length_map, hal.len] at *
    have s2 : Same H1 (upd H1 D (.lst [vI (Ks550.graphAt k a).arrows.length])) := same_upd hD
    refine ⟨_, rfl, p1, rfl, ⟨_, s2.seq hts⟩, for_list (K := K) (a := p1) (xs := ts.map V.ref)
      (fun i σ H' => ∃ (y4 y5 : Option V), σ = [some (vI k), some (vI a), some (.ref p1), some (.ref D), y4, y5] ∧ Same H1 H' ∧ H' D = some (.lst (((Ks550.graphAt k a).arrows.length :: flat ((Ks550.graphAt k a).arrows.take i)).map vI)))
      ⟨none, none, rfl, s2, upd_same⟩ (fun i σ H' _ ⟨_, _, _, s5, _⟩ => s5.seq hts) ?_ ?_⟩
    · rintro i y σ H' hi ⟨y4, y5, rfl, s5, h5⟩
      obtain ⟨t, ht, rfl⟩ := ref_at hi
      obtain ⟨⟨u, v⟩, hp, hT⟩ := hal.at ht
      refine ⟨t, _, rfl, same_t s5 hT, rfl, _, _, rfl, _, _, rfl, rfl, ?_⟩
      refine ⟨_, rfl, .inl ⟨rfl, _, SqL.of h5⟩, _, rfl, _, rfl, (by show 2 ≤ sizeLine; decide), fun T nT => ?_⟩
      have nDT : D ≠ T := ne_of_none h5 nT
      refine ⟨D, T, _, _, rfl, rfl, (upd_ne nDT).trans h5, upd_same, ?_, some (vI u), some (vI v), rfl, ?_, ?_⟩
      · have h1 : ((Ks550.graphAt k a).arrows.take i).length ≤ 9 := Nat.le_trans (List.length_take_le' _ _) (Nat.le_trans (upTo_len k a (k * k)) (Nat.mul_le_mul hk3 hk3))
        rw [List.length_map, List.length_cons, flat_len]
        exact Nat.le_of_lt (small_line (show 2 * _ + 1 + 2 ≤ 100000 by omega))
      · exact same_past (s5.trans (same_upd nT)) hD
      · rw [upd_same, take_snoc hp, flat_snoc]
        show _ = some (HO.lst (((Ks550.graphAt k a).arrows.length :: flat ((Ks550.graphAt k a).arrows.take i) ++ [u, v]).map vI))
        rw [List.map_append]
        rfl
    · rintro σ H' ⟨y4, y5, rfl, s5, h5⟩
      rw [List.length_map, hal.len, List.take_length] at h5
      exact ⟨_, rfl, q' H' D (SqL.of h5)⟩
end
end Mc
namespace Mc
open PySem PySem.Spec PyProof.Rows L2
theorem in_int {lo hi z : Int} (h : PySem.W.Codec.inInt lo hi z = true) : lo ≤ z ∧ z ≤ hi := by
  unfold PySem.W.Codec.inInt at h
  rw [Bool.and_eq_true, decide_eq_true_eq, decide_eq_true_eq] at h
  exact h
theorem ints_nats {l : List Int} (h : ∀ z ∈ l, 0 ≤ z) : l.map V.int = (nats l).map vI := by
  unfold nats
  rw [List.map_map]
  refine List.map_congr_left fun z hz => ?_
  have := h z hz
  show V.int z = V.int ((z.toNat : Nat) : Int)
  rw [Int.toNat_of_nonneg this]
/-- what the top has written of a def -/
structure Said (K : PySem.W.Frag) (x : Str) (st : Stmt) (f : Addr) : Prop where
  at' : PySem.W.nsIn K mainGlobals x = some (some (.ref f))
  obj : ∃ (oc : Value) (od : Option Addr) (kV doc pm : Value) (an : Option Addr) (cdv ct : Value) (osl : Array (Option Value)), K.lookup f = some ⟨oc, od, .func (PySem.W.fnOf x x (defArgs st) (defBody st) (defScope st) .none kV doc pm an cdv ct), osl⟩ ∧ PySem.W.codeIn K cdv x = true
  keep : PySem.W.keepIn K (.ref f) = true
theorem said_mk {K : PySem.W.Frag} {x : Str} {st : Stmt} {f : Addr} {oc : Value} {od an : Option Addr} {osl : Array (Option Value)} {kV doc pm cdv ct : Value} (a : PySem.W.nsIn K mainGlobals x = some (some (.ref f)))
    (l : K.lookup f = some ⟨oc, od, .func (PySem.W.fnOf x x (defArgs st) (defBody st) (defScope st) .none kV doc pm an cdv ct), osl⟩) (c : PySem.W.codeIn K cdv x = true) (k : PySem.W.keepIn K (.ref f) = true) : Said K x st f := ⟨a, ⟨oc, od, kV, doc, pm, an, cdv, ct, osl, l, c⟩, k⟩
theorem Said.fun' {K : PySem.W.Frag} {x : Str} {st : Stmt} {f : Addr} (S : Said K x st f) : ∃ fd : FuncData, Fun K x x st f fd := by
  obtain ⟨oc, od, kV, doc, pm, an, cdv, ct, osl, l, c⟩ := S.obj
  exact ⟨_, fun_mk l c S.keep⟩
end Mc
namespace Mc
open PySem PySem.Spec PyProof.Rows L2
theorem all_graph {P : Program} {w : World} {K : PySem.W.Frag} {h : Heap} {mg : Str → Option Value} {fa f1 f2 f3 : Addr} (X : K.In h) (G : h.Ns mainGlobals mg) (hfa : mg "graph" = some (.ref fa))
    {t1 t2 : Tok}
    (S1 : Said K "how_many_graphs" sHow f1) (S2 : Said K "arrows_by_number" sNum f2) (S3 : Said K "graph" sGraph f3)
    (z1 : PySem.W.nsIn K mainGlobals "len" = some none) (z2 : PySem.W.nsIn K mainGlobals "range" = some none)
    (y1 : PySem.W.nsIn K mainGlobals "MOST_PLACES_BY_NUMBER" = some (some (.int 3 t1))) (y2 : PySem.W.nsIn K mainGlobals "NOT_AS_TOLD" = some (some (.int (-22) t2))) :
    ∃ fd : FuncData, (∀ (s : Shared) (us : List Value), us.length = (["k", "a"] : List Str).length → BindsTo s fd ⟨us, []⟩ ((["k", "a"] : List Str).zip us)) ∧ ∀ base : Heap, K.In base → base.Ns mainGlobals mg → FnOk P w K mg base CX0 2 fa fd ["k", "a"] (spGraph K) := by
  have e := hfa.symm.trans (PySem.W.mg_of X G S3.at')
  cases e
  obtain ⟨d1, F1⟩ := S1.fun'
  obtain ⟨d2, F2⟩ := S2.fun'
  obtain ⟨oc, od, kV, doc, pm, an, cdv, ct, osl, lE, cE⟩ := S3.obj
  have F3 := fun_mk lE cE S3.keep
  have b1 := F1.binds (ps := ["places"]) fun _ _ _ _ _ _ us hl => match us, hl with | [_], _ => rfl
  have b2 := F2.binds (ps := ["places", "told"]) fun _ _ _ _ _ _ us hl => match us, hl with | [_, _], _ => rfl
  have g := fun {x : Str} {f : Addr} (a : PySem.W.nsIn K mainGlobals x = some (some (.ref f))) => PySem.W.mg_of X G a
  refine ⟨PySem.W.fnOf "graph" "graph" (defArgs sGraph) (defBody sGraph) (defScope sGraph) .none kV doc pm an cdv ct, fun s us hu => match us, hu with | [_, _], _ => .of_eq rfl, fun base _ _ => ?_⟩
  exact ok_graph F3 F1 b1 (g S1.at') F2 b2 (g S2.at') (PySem.W.mg_none_of X G z2) (PySem.W.mg_none_of X G z1) (PySem.W.mg_of X G y1) (PySem.W.mg_of X G y2)
end Mc
open PySem PySem.W PyProof.Rows
set_option maxRecDepth 100000 in
set_option maxHeartbeats 8000000 in
theorem PySem.Challenge.cw_mapcounts_s04_graph_holds : PySem.Challenge.rw_mapcounts_s04_graph.Holds := by
  w_on; k_headS; (case hw => exact ⟨[.int 0, .int 0], by decide +kernel, by decide +kernel⟩)
  k_fillS
  refine L2.walk_specK (r := PySem.Challenge.rw_mapcounts_s04_graph) (k := 2) (CX := L2.CX0) (ps := ["k", "a"]) (sp := Mc.spGraph) (by decide +kernel) rfl rfl ⟨rfl, by decide, by decide⟩ (fun w h Y => PySem.W.kIn_of Y) ?F ?S (fun _ _ _ _ z => z)
  case F =>
    intro w mg fa h Y KX G hmg
    refine' Mc.all_graph KX G hmg (Mc.said_mk ?a1 ?l1 ?c1 ?k1) (Mc.said_mk ?a2 ?l2 ?c2 ?k2) (Mc.said_mk ?a3 ?l3 ?c3 ?k3) ?z1 ?z2 ?y1 ?y2
    (case a1 => k_is); (case l1 => k_is); (case c1 => k_is); (case k1 => k_is)
    (case a2 => k_is); (case l2 => k_is); (case c2 => k_is); (case k2 => k_is)
    (case a3 => k_is); (case l3 => k_is); (case c3 => k_is); (case k3 => k_is)
    (case z1 => k_is); (case z2 => k_is)
    (case y1 => k_is); (case y2 => k_is)
  case S =>
    intro K H xs a hO hwi hask hx
    obtain ⟨k, a, u⟩ := a
    cases hx with
    | cons h1 h2 =>
      cases h2 with
      | cons h2 h3 =>
        cases h3
        cases h1
        cases h2
        have q : (Codec.inInt 0 4294967295 k && (Codec.inInt 0 4294967295 a && true)) = true := hwi
        simp only [Bool.and_eq_true] at q
        obtain ⟨q1, q2, _⟩ := q
        have hk := (Mc.in_int q1).1
        have ha := (Mc.in_int q2).1
        refine ⟨k.toNat, a.toNat, ?_, fun H' p hp => ?_⟩
        · show [L2.V.int k, L2.V.int a] = [L2.V.int ((k.toNat : Nat) : Int), L2.V.int ((a.toNat : Nat) : Int)]
          rw [Int.toNat_of_nonneg hk, Int.toNat_of_nonneg ha]
        · rw [← Mc.graph_due] at hp
          exact .lst hp (L2.dw_ints _)
#print axioms PySem.Challenge.cw_mapcounts_s04_graph_holds
