import PyProof.Rows.All
import Wide.All
import OpenK.AllK
import Wide.FinOn
import Open.SpecLaws
import KE.OsGo
import HandS.ForSpec
import HandS.Comp
import HandS.Iter
import HandS.Walk
import HandS.Deep
import PySem.Challenge.RW_mapcounts_s03_rounds
set_option Elab.async false
set_option linter.all false
set_option maxRecDepth 100000
set_option maxHeartbeats 2000000
namespace Mc
/-! ### sums over places -/
def S (n : Nat) (f : Nat → Nat) : Nat := ((List.range n).map f).sum
theorem S_zero (f : Nat → Nat) : S 0 f = 0 := rfl
theorem S_succ (n : Nat) (f : Nat → Nat) : S (n + 1) f = S n f + f n := by
  unfold S
  rw [List.range_succ, List.map_append, List.sum_append]
  simp
theorem S_congr {n : Nat} {f g : Nat → Nat} (h : ∀ i, i < n → f i = g i) : S n f = S n g := by
  induction n with
  | zero => rfl
  | succ n ih =>
    rw [S_succ, S_succ, ih fun i hi => h i (by omega), h n (by omega)]
theorem S_add (n : Nat) (f g : Nat → Nat) : S n (fun i => f i + g i) = S n f + S n g := by
  induction n with
  | zero => rfl
  | succ n ih =>
    rw [S_succ, S_succ, S_succ, ih]
    omega
theorem S_const0 (n : Nat) : S n (fun _ => 0) = 0 := by
  induction n with
  | zero => rfl
  | succ n ih => rw [S_succ, ih]
theorem S_comm (n m : Nat) (f : Nat → Nat → Nat) : S n (fun i => S m (fun j => f i j)) = S m (fun j => S n (fun i => f i j)) := by
  induction n with
  | zero =>
    rw [S_zero]
    exact (S_const0 m).symm
  | succ n ih =>
    rw [S_succ, ih, ← S_add]
    exact S_congr fun j _ => (S_succ n _).symm
theorem S_point {n a : Nat} (x : Nat → Nat) (h : a < n) : S n (fun i => if i = a then x i else 0) = x a := by
  induction n with
  | zero => omega
  | succ n ih =>
    rw [S_succ]
    by_cases e : n = a
    · subst e
      rw [if_pos rfl]
      have z : S n (fun i => if i = n then x i else 0) = 0 := by
        exact (S_congr (g := fun _ => 0) fun i hi => if_neg (show ¬ i = n by omega)).trans (S_const0 n)
      rw [z]
      omega
    · rw [if_neg e, ih (by omega)]
      rfl
theorem sum_eq_S (l : List Nat) : l.sum = S l.length (fun i => l.getD i 0) := by
  induction l with
  | nil => rfl
  | cons a r ih =>
    have e : S (r.length + 1) (fun i => (a :: r).getD i 0) = a + S r.length (fun i => r.getD i 0) := by
      unfold S
      rw [List.range_succ_eq_map, List.map_cons, List.map_map, List.sum_cons]
      rfl
    show (a :: r).sum = S (r.length + 1) (fun i => (a :: r).getD i 0)
    rw [e, List.sum_cons, ih]
theorem getD_rangeMap {n v : Nat} (f : Nat → Nat) (h : v < n) : ((List.range n).map f).getD v 0 = f v := by
  rw [List.getD_eq_getElem?_getD, List.getElem?_map, List.getElem?_range h]
  rfl
/-! ### a graph as told -/
def pairs : List Nat → List (Nat × Nat)
  | u :: v :: r => (u, v) :: pairs r
  | _ => []
def rank (n : Nat) (p : Nat × Nat) : Nat := p.1 * n + p.2
def risesFrom (n : Nat) : Int → List (Nat × Nat) → Bool
  | _, [] => true
  | last, p :: r => if n ≤ p.1 ∨ n ≤ p.2 then false else if (rank n p : Int) ≤ last then false else risesFrom n (rank n p : Nat) r
def isGraph (n : Nat) (l : List Nat) : Bool := if n < 1 ∨ 5 < n ∨ l.length % 2 = 1 then false else risesFrom n (-1) (pairs l)
theorem rank_lt {n : Nat} {u v u' v' : Nat} (hv : v < n) (hv' : v' < n) : (u < u' ∨ (u = u' ∧ v < v')) ↔ rank n (u, v) < rank n (u', v') := by
  unfold rank
  dsimp only
  constructor
  · rintro (h | ⟨rfl, h⟩)
    · have := Nat.mul_le_mul_right n (show u + 1 ≤ u' from h)
      rw [Nat.succ_mul] at this
      omega
    · omega
  · intro h
    by_cases e : u < u'
    · exact .inl e
    · by_cases e2 : u = u'
      · subst e2
        exact .inr ⟨rfl, by omega⟩
      · have := Nat.mul_le_mul_right n (show u' + 1 ≤ u by omega)
        rw [Nat.succ_mul] at this
        omega
theorem pairsOf_is {n : Nat} : ∀ {l : List Nat} {r : List (Nat × Nat)}, Ks547.pairsOf n l = some r → r = pairs l ∧ l.length % 2 = 0
  | [], r, h => by
    simp only [Ks547.pairsOf] at h
    cases h
    exact ⟨rfl, rfl⟩
  | [_], r, h => by
    simp only [Ks547.pairsOf] at h
    cases h
  | u :: v :: l, r, h => by
    unfold Ks547.pairsOf at h
    split at h
    · cases h
    · split at h
      · cases h
      · rename_i r' e
        obtain ⟨h1, h2⟩ := pairsOf_is e
        have h3 : (u :: v :: l).length % 2 = 0 := by
          simp only [List.length_cons]
          omega
        split at h
        · cases h
          refine ⟨?_, h3⟩
          show [(u, v)] = (u, v) :: pairs l
          rw [← h1]
        · rename_i p q
          split at h
          · cases h
            refine ⟨?_, h3⟩
            show (u, v) :: p :: q = (u, v) :: pairs l
            rw [← h1]
          · cases h
theorem pairsOf_cons (n u v : Nat) (l : List Nat) : Ks547.pairsOf n (u :: v :: l) = (if n ≤ u ∨ n ≤ v then none else match Ks547.pairsOf n l with
    | none => none
    | some r => match r with
      | [] => some [(u, v)]
      | p :: _ => if u < p.1 ∨ (u = p.1 ∧ v < p.2) then some ((u, v) :: r) else none) := by
  rw [Ks547.pairsOf]
  rfl
theorem rises_is {n : Nat} : ∀ (l : List Nat) (last : Int), -1 ≤ last → l.length % 2 = 0 → risesFrom n last (pairs l) = (match Ks547.pairsOf n l with | none => false | some [] => true | some (p :: _) => decide (last < (rank n p : Int)))
  | [], last, _, _ => by
    simp only [Ks547.pairsOf]
    rfl
  | [_], _, _, h => by
    simp at h
  | u :: v :: l, last, hl, h => by
    have hev : l.length % 2 = 0 := by
      simp only [List.length_cons] at h
      omega
    have ih := rises_is (n := n) l (rank n (u, v) : Nat) (by omega) hev
    show (if n ≤ u ∨ n ≤ v then false else if (rank n (u, v) : Int) ≤ last then false else risesFrom n (rank n (u, v) : Nat) (pairs l)) = _
    rw [ih, pairsOf_cons]
    by_cases c : n ≤ u ∨ n ≤ v
    · rw [if_pos c, if_pos c]
    · rw [if_neg c, if_neg c]
      cases e : Ks547.pairsOf n l with
      | none =>
        dsimp only
        split <;> rfl
      | some r =>
        cases r with
        | nil =>
          dsimp only
          by_cases d : (rank n (u, v) : Int) ≤ last
          · rw [if_pos d, decide_eq_false (by omega)]
          · rw [if_neg d, decide_eq_true (by omega)]
        | cons p q =>
          dsimp only
          obtain ⟨pu, pv⟩ := p
          have hp : pu < n ∧ pv < n := by
            have := (pairsOf_is e).1
            match l, e with
            | a :: b :: l', e =>
              have e' := e
              unfold Ks547.pairsOf at e'
              split at e'
              · cases e'
              · rename_i hc
                simp only [pairs, List.cons.injEq, Prod.mk.injEq] at this
                omega
            | [], e => simp [Ks547.pairsOf] at e
            | [_], e => simp [Ks547.pairsOf] at e
          have hlex := rank_lt (n := n) (u := u) (v := v) (u' := pu) (v' := pv) (by omega) hp.2
          by_cases d : (rank n (u, v) : Int) ≤ last
          · rw [if_pos d]
            split
            · rfl
            · rename_i heq
              split at heq <;> cases heq
            · rename_i heq
              split at heq
              · cases heq
                exact (decide_eq_false (by omega)).symm
              · cases heq
          · rw [if_neg d]
            by_cases k : u < pu ∨ (u = pu ∧ v < pv)
            · rw [if_pos k]
              have := hlex.mp k
              show decide _ = decide _
              rw [decide_eq_true (by omega), decide_eq_true (by omega)]
            · rw [if_neg k]
              have : ¬ rank n (u, v) < rank n (pu, pv) := fun z => k (hlex.mpr z)
              show decide _ = false
              rw [decide_eq_false (by omega)]
theorem graphOf_is (n : Nat) (l : List Nat) : Ks547.graphOf n l = if isGraph n l = true then some ⟨n, pairs l⟩ else none := by
  unfold Ks547.graphOf isGraph Ks547.PLACES
  by_cases c : n < 1 ∨ 5 < n
  · rw [if_pos c, if_pos (show n < 1 ∨ 5 < n ∨ l.length % 2 = 1 by omega), if_neg Bool.false_ne_true]
  · rw [if_neg c]
    by_cases o : l.length % 2 = 1
    · rw [if_pos (show n < 1 ∨ 5 < n ∨ l.length % 2 = 1 by omega), if_neg Bool.false_ne_true]
      cases e : Ks547.pairsOf n l with
      | none => rfl
      | some r =>
        have := (pairsOf_is e).2
        omega
    · rw [if_neg (show ¬ (n < 1 ∨ 5 < n ∨ l.length % 2 = 1) by omega), rises_is l (-1) (by omega) (by omega)]
      cases e : Ks547.pairsOf n l with
      | none =>
        dsimp only
        rw [if_neg Bool.false_ne_true]
        rfl
      | some r =>
        have h1 := (pairsOf_is e).1
        cases r with
        | nil =>
          dsimp only
          rw [if_pos rfl, ← h1]
          rfl
        | cons p q =>
          dsimp only
          rw [if_pos (decide_eq_true (by omega)), ← h1]
          rfl
/-! ### what a graph's arrows are -/
structure Good (n : Nat) (ps : List (Nat × Nat)) : Prop where
  inn : ∀ p ∈ ps, p.1 < n ∧ p.2 < n
  nd : ps.Nodup
theorem rises_good {n : Nat} : ∀ {ps : List (Nat × Nat)} {last : Int}, risesFrom n last ps = true → Good n ps ∧ ∀ p ∈ ps, last < (rank n p : Int)
  | [], _, _ => ⟨⟨by simp, List.nodup_nil⟩, by simp⟩
  | p :: r, last, h => by
    unfold risesFrom at h
    split at h
    · cases h
    · rename_i c
      split at h
      · cases h
      · rename_i d
        obtain ⟨g, lt⟩ := rises_good h
        refine ⟨⟨fun q hq => ?_, List.nodup_cons.mpr ⟨fun m => ?_, g.nd⟩⟩, fun q hq => ?_⟩
        · rcases List.mem_cons.mp hq with e | m
          · subst e
            omega
          · exact g.inn q m
        · have := lt p m
          omega
        · rcases List.mem_cons.mp hq with e | m
          · subst e
            omega
          · have := lt q m
            omega
theorem isGraph_good {n : Nat} {l : List Nat} (h : isGraph n l = true) : 1 ≤ n ∧ n ≤ 5 ∧ l.length % 2 = 0 ∧ Good n (pairs l) := by
  unfold isGraph at h
  split at h
  · cases h
  · exact ⟨by omega, by omega, by omega, (rises_good h).1⟩
def nats (l : List Int) : List Nat := l.map Int.toNat
end Mc
namespace Mc
/-! ### one arrow more -/
def addAt (e l : List Nat) (p : Nat × Nat) : List Nat := l.set p.2 (l.getD p.2 0 + e.getD p.1 0)
def longer (e : List Nat) (ps : List (Nat × Nat)) : List Nat := ps.foldl (addAt e) (List.replicate e.length 0)
theorem addAt_len (e l : List Nat) (p : Nat × Nat) : (addAt e l p).length = l.length := List.length_set
theorem fold_len (e : List Nat) : ∀ (ps : List (Nat × Nat)) (l : List Nat), (ps.foldl (addAt e) l).length = l.length
  | [], _ => rfl
  | p :: r, l => by
    rw [List.foldl_cons, fold_len e r, addAt_len]
theorem longer_len (e : List Nat) (ps : List (Nat × Nat)) : (longer e ps).length = e.length := by
  unfold longer
  rw [fold_len, List.length_replicate]
theorem getD_set {l : List Nat} {i v x : Nat} (h : i < l.length) : (l.set i x).getD v 0 = if i = v then x else l.getD v 0 := by
  rw [List.getD_eq_getElem?_getD, List.getD_eq_getElem?_getD]
  by_cases e : i = v
  · subst e
    rw [if_pos rfl, List.getElem?_set_self h]
    rfl
  · rw [if_neg e, List.getElem?_set_ne e]
/-- what has been added up at v -/
def into (e : List Nat) (v : Nat) (ps : List (Nat × Nat)) : Nat := (ps.map fun p => if p.2 = v then e.getD p.1 0 else 0).sum
theorem fold_at (e : List Nat) {v : Nat} : ∀ (ps : List (Nat × Nat)) (l : List Nat), (∀ p ∈ ps, p.2 < l.length) → (ps.foldl (addAt e) l).getD v 0 = l.getD v 0 + into e v ps
  | [], _, _ => rfl
  | p :: r, l, h => by
    rw [List.foldl_cons, fold_at e r _ fun q hq => by rw [addAt_len]; exact h q (List.mem_cons_of_mem _ hq)]
    unfold into
    rw [List.map_cons, List.sum_cons]
    unfold addAt
    rw [getD_set (h p (List.mem_cons_self ..))]
    by_cases c : p.2 = v
    · rw [if_pos c, if_pos c, c]
      omega
    · rw [if_neg c, if_neg c]
      omega
theorem into_has (e : List Nat) {n v : Nat} : ∀ {ps : List (Nat × Nat)}, Good n ps → S n (fun u => if ps.contains (u, v) then e.getD u 0 else 0) = into e v ps
  | [], _ => by
    unfold into
    exact (S_congr (g := fun _ => 0) fun i _ => by simp).trans (S_const0 n)
  | p :: r, g => by
    obtain ⟨g1, g2⟩ := List.nodup_cons.mp g.nd
    have ih := into_has e (v := v) (ps := r) ⟨fun q hq => g.inn q (List.mem_cons_of_mem _ hq), g2⟩
    have e1 : into e v (p :: r) = (if p.2 = v then e.getD p.1 0 else 0) + into e v r := by
      unfold into
      rw [List.map_cons, List.sum_cons]
    rw [e1, ← ih]
    have hp := (g.inn p (List.mem_cons_self ..)).1
    by_cases c : p.2 = v
    · rw [if_pos c, ← S_point (n := n) (a := p.1) (fun i => e.getD i 0) hp, ← S_add]
      refine S_congr fun u _ => ?_
      by_cases d : u = p.1
      · have e2 : (u, v) = p := by rw [d, ← c]
        have e3 : r.contains (u, v) = false := by
          rw [e2]
          simpa using g1
        have e4 : (p :: r).contains (u, v) = true := by rw [e2]; simp
        rw [e3, e4, if_pos rfl, if_pos d, if_neg Bool.false_ne_true, Nat.add_zero]
      · have e4 : (p :: r).contains (u, v) = r.contains (u, v) := by
          rw [List.contains_cons]
          have : ((u, v) == p) = false := by
            rw [beq_eq_false_iff_ne]
            intro z
            exact d (by rw [← z])
          rw [this, Bool.false_or]
        rw [e4, if_neg d, Nat.zero_add]
    · rw [if_neg c, Nat.zero_add]
      refine S_congr fun u _ => ?_
      have e4 : (p :: r).contains (u, v) = r.contains (u, v) := by
        rw [List.contains_cons]
        have : ((u, v) == p) = false := by
          rw [beq_eq_false_iff_ne]
          intro z
          exact c (by rw [← z])
        rw [this, Bool.false_or]
      rw [e4]
theorem list_ext_getD {l m : List Nat} (hl : l.length = m.length) (h : ∀ v, v < l.length → l.getD v 0 = m.getD v 0) : l = m := by
  refine List.ext_getElem hl fun i h1 h2 => ?_
  have := h i h1
  rw [List.getD_eq_getElem?_getD, List.getD_eq_getElem?_getD, List.getElem?_eq_getElem h1, List.getElem?_eq_getElem h2] at this
  exact this
theorem step_len (g : Ks547.Graph) (l : List Nat) : (Ks550.step g l).length = g.n := by
  unfold Ks550.step
  rw [List.length_map, List.length_range]
theorem step_at (g : Ks547.Graph) (l : List Nat) {v : Nat} (h : v < g.n) : (Ks550.step g l).getD v 0 = S g.n (fun u => if g.arrows.contains (u, v) then l.getD u 0 else 0) := by
  unfold Ks550.step
  rw [getD_rangeMap _ h]
  rfl
/-- a turn of the program's vector is the specification's step -/
theorem longer_step {n : Nat} {ps : List (Nat × Nat)} (g : Good n ps) {e : List Nat} (he : e.length = n) : longer e ps = Ks550.step ⟨n, ps⟩ e := by
  refine list_ext_getD ?_ fun v hv => ?_
  · rw [longer_len, step_len, he]
  · rw [longer_len, he] at hv
    rw [step_at _ _ hv]
    show (longer e ps).getD v 0 = S n (fun u => if ps.contains (u, v) then e.getD u 0 else 0)
    rw [into_has e g]
    unfold longer
    rw [fold_at e ps _ fun p hp => by
      rw [List.length_replicate, he]
      exact (g.inn p hp).2]
    rw [List.getD_eq_getElem?_getD, List.getElem?_replicate]
    split <;> simp
/-! ### walks -/
def endings (n : Nat) (ps : List (Nat × Nat)) : Nat → List Nat
  | 0 => List.replicate n 1
  | k + 1 => longer (endings n ps k) ps
theorem endings_len (n : Nat) (ps : List (Nat × Nat)) : ∀ k, (endings n ps k).length = n
  | 0 => List.length_replicate
  | k + 1 => by
    show (longer (endings n ps k) ps).length = n
    rw [longer_len, endings_len n ps k]
theorem from_len (g : Ks547.Graph) (u : Nat) : ∀ k, (Ks550.walksFrom g u k).length = g.n
  | 0 => by
    unfold Ks550.walksFrom
    rw [List.length_map, List.length_range]
  | k + 1 => by
    unfold Ks550.walksFrom
    exact step_len _ _
theorem endings_at {n : Nat} {ps : List (Nat × Nat)} (g : Good n ps) : ∀ (k v : Nat), v < n → (endings n ps k).getD v 0 = S n (fun u => (Ks550.walksFrom ⟨n, ps⟩ u k).getD v 0)
  | 0, v, hv => by
    show (List.replicate n 1).getD v 0 = _
    rw [List.getD_eq_getElem?_getD, List.getElem?_replicate, if_pos hv]
    show 1 = S n (fun u => ((List.range n).map fun v => if v = u then 1 else 0).getD v 0)
    rw [S_congr (g := fun u => if u = v then 1 else 0) fun u _ => ?_, S_point (fun _ => 1) hv]
    rw [getD_rangeMap _ hv]
    by_cases c : v = u
    · rw [if_pos c, if_pos c.symm]
    · rw [if_neg c, if_neg fun z => c z.symm]
  | k + 1, v, hv => by
    show (longer (endings n ps k) ps).getD v 0 = S n (fun u => (Ks550.step ⟨n, ps⟩ (Ks550.walksFrom ⟨n, ps⟩ u k)).getD v 0)
    rw [longer_step g (endings_len n ps k), step_at _ _ hv]
    rw [S_congr (f := fun u => (Ks550.step ⟨n, ps⟩ (Ks550.walksFrom ⟨n, ps⟩ u k)).getD v 0) fun u _ => step_at _ _ hv]
    show S n (fun u => if ps.contains (u, v) then (endings n ps k).getD u 0 else 0) = S n (fun u => S n (fun w => if ps.contains (w, v) then (Ks550.walksFrom ⟨n, ps⟩ u k).getD w 0 else 0))
    rw [S_comm]
    refine S_congr fun w hw => ?_
    by_cases c : ps.contains (w, v) = true
    · rw [if_pos c, endings_at g k w hw]
      exact S_congr fun u _ => (if_pos c).symm
    · rw [if_neg c]
      exact ((S_congr (g := fun _ => 0) fun u _ => if_neg c).trans (S_const0 n)).symm
theorem walks_is {n : Nat} {ps : List (Nat × Nat)} (g : Good n ps) (k : Nat) : Ks550.walks ⟨n, ps⟩ k = (endings n ps k).sum := by
  show S n (fun u => (Ks550.walksFrom ⟨n, ps⟩ u k).sum) = _
  rw [sum_eq_S, endings_len, S_congr (g := fun u => S n (fun v => (Ks550.walksFrom ⟨n, ps⟩ u k).getD v 0)) fun u _ => by rw [sum_eq_S, from_len], S_comm]
  exact S_congr fun v hv => (endings_at g k v hv).symm
/-! ### what is due -/
def walksAns (n k : Nat) (l : List Nat) : List Int := if isGraph n l = true ∧ k ≤ 12 then [((endings n (pairs l) k).sum : Nat)] else [-22]
theorem walks_due (n k : Int) (first : List Int) : PyKs550.walks n k first = walksAns n.toNat k.toNat (nats first) := by
  show Ks550Neutral.out (Ks550.answer (.walks n.toNat k.toNat (nats first))) = _
  unfold Ks550.answer Ks547.graph walksAns
  dsimp only
  rw [graphOf_is]
  by_cases c : isGraph n.toNat (nats first) = true
  · rw [if_pos c]
    dsimp only
    by_cases d : Ks550.LONG < k.toNat
    · rw [if_pos d, if_neg (fun z => by have := z.2; have : (12 : Nat) < k.toNat := d; omega)]
      rfl
    · rw [if_neg d, if_pos ⟨c, Nat.le_of_not_lt d⟩, walks_is (isGraph_good c).2.2.2]
      rfl
  · rw [if_neg c, if_neg fun z => c z.1]
    rfl
end Mc
namespace Mc
/-! ### so many arrows more -/
def goOn (ps : List (Nat × Nat)) (e : List Nat) : Nat → List Nat
  | 0 => e
  | k + 1 => longer (goOn ps e k) ps
theorem goOn_len (ps : List (Nat × Nat)) (e : List Nat) : ∀ k, (goOn ps e k).length = e.length
  | 0 => rfl
  | k + 1 => by
    show (longer (goOn ps e k) ps).length = e.length
    rw [longer_len, goOn_len ps e k]
theorem goOn_endings (n : Nat) (ps : List (Nat × Nat)) : ∀ k, goOn ps (List.replicate n 1) k = endings n ps k
  | 0 => rfl
  | k + 1 => by
    show longer (goOn ps (List.replicate n 1) k) ps = longer (endings n ps k) ps
    rw [goOn_endings n ps k]
def home (n u : Nat) : List Nat := (List.range n).map fun v => if v = u then 1 else 0
theorem home_len (n u : Nat) : (home n u).length = n := by
  unfold home
  rw [List.length_map, List.length_range]
theorem goOn_from {n : Nat} {ps : List (Nat × Nat)} (g : Good n ps) (u : Nat) : ∀ k, goOn ps (home n u) k = Ks550.walksFrom ⟨n, ps⟩ u k
  | 0 => rfl
  | k + 1 => by
    show longer (goOn ps (home n u) k) ps = Ks550.step ⟨n, ps⟩ (Ks550.walksFrom ⟨n, ps⟩ u k)
    rw [longer_step g (by rw [goOn_len, home_len]), goOn_from g u k]
def back (n : Nat) (ps : List (Nat × Nat)) (k u : Nat) : Nat := (goOn ps (home n u) k).getD u 0
theorem rounds_is {n : Nat} {ps : List (Nat × Nat)} (g : Good n ps) (k : Nat) : Ks550.rounds ⟨n, ps⟩ k = S n (back n ps k) := by
  show S n (fun u => (Ks550.walksFrom ⟨n, ps⟩ u k).getD u 0) = _
  exact S_congr fun u _ => by rw [← goOn_from g u k]; rfl
def roundsAns (n k : Nat) (l : List Nat) : List Int := if isGraph n l = true ∧ k ≤ 12 then [(S n (back n (pairs l) k) : Nat)] else [-22]
theorem rounds_due (n k : Int) (first : List Int) : PyKs550.rounds n k first = roundsAns n.toNat k.toNat (nats first) := by
  show Ks550Neutral.out (Ks550.answer (.rounds n.toNat k.toNat (nats first))) = _
  unfold Ks550.answer Ks547.graph roundsAns
  dsimp only
  rw [graphOf_is]
  by_cases c : isGraph n.toNat (nats first) = true
  · rw [if_pos c]
    dsimp only
    by_cases d : Ks550.LONG < k.toNat
    · rw [if_pos d, if_neg (fun z => by have := z.2; have : (12 : Nat) < k.toNat := d; omega)]
      rfl
    · rw [if_neg d, if_pos ⟨c, Nat.le_of_not_lt d⟩, rounds_is (isGraph_good c).2.2.2]
      rfl
  · rw [if_neg c, if_neg fun z => c z.1]
    rfl
end Mc
namespace Mc
open PySem PySem.Spec PyProof.Rows L2
/-! ### lists by places -/
inductive Al2 {A B : Type} (R : A → B → Prop) : List A → List B → Prop
  | nil : Al2 R [] []
  | cons {x : A} {y : B} {xs : List A} {ys : List B} : R x y → Al2 R xs ys → Al2 R (x :: xs) (y :: ys)
section
variable {A B : Type} {R R' : A → B → Prop}
theorem Al2.len : ∀ {xs : List A} {ys : List B}, Al2 R xs ys → xs.length = ys.length
  | _, _, .nil => rfl
  | _, _, .cons _ t => congrArg (· + 1) t.len
theorem Al2.mono (h : ∀ x y, R x y → R' x y) : ∀ {xs : List A} {ys : List B}, Al2 R xs ys → Al2 R' xs ys
  | _, _, .nil => .nil
  | _, _, .cons a t => .cons (h _ _ a) (t.mono h)
theorem Al2.at : ∀ {xs : List A} {ys : List B} {i : Nat} {x : A}, Al2 R xs ys → xs[i]? = some x → ∃ y, ys[i]? = some y ∧ R x y
  | _, _, _, _, .nil, h => by simp at h
  | _, _, 0, _, .cons a _, h => ⟨_, rfl, by cases h; exact a⟩
  | _, _, i + 1, _, .cons _ t, h => t.at (i := i) h
theorem Al2.at2 : ∀ {xs : List A} {ys : List B} {i : Nat} {y : B}, Al2 R xs ys → ys[i]? = some y → ∃ x, xs[i]? = some x ∧ R x y
  | _, _, _, _, .nil, h => by simp at h
  | _, _, 0, _, .cons a _, h => ⟨_, rfl, by cases h; exact a⟩
  | _, _, i + 1, _, .cons _ t, h => t.at2 (i := i) h
theorem Al2.snoc : ∀ {xs : List A} {ys : List B} {x : A} {y : B}, Al2 R xs ys → R x y → Al2 R (xs ++ [x]) (ys ++ [y])
  | _, _, _, _, .nil, r => .cons r .nil
  | _, _, _, _, .cons a t, r => .cons a (t.snoc r)
end
theorem take_snoc {A : Type} {l : List A} {i : Nat} {x : A} (h : l[i]? = some x) : l.take (i + 1) = l.take i ++ [x] := by
  rw [List.take_add_one, h]
  rfl
/-! ### the heap -/
def vI (n : Nat) : V := .int (n : Int)
def tp (p : Nat × Nat) : List V := [vI p.1, vI p.2]
theorem same_upd {H : Hp} {p : Addr} {o : HO} (h : H p = none) : Same H (upd H p o) := fun b x e => by
  rw [upd_ne (ne_of_none e h)]
  exact e
/-- what was tracked ahead of D's making is as it was -/
theorem same_past {H H' : Hp} {D : Addr} {o : HO} (s : Same H H') (h : H D = none) : Same H (upd H' D o) := fun b x e => by
  rw [upd_ne (ne_of_none e h)]
  exact s b x e
theorem same_t {K : PySem.W.Frag} {H H' : Hp} {a : Addr} {xs : List V} (e : Same H H') (h : SqT K H a xs) : SqT K H' a xs := by
  rcases h with (h | ⟨o, h⟩) | h
  · exact .inl (.inl (e _ _ h))
  · exact .inl (.inr ⟨o, e _ _ h⟩)
  · exact .inr h
/-- a list of pairs -/
def PairsAt (K : PySem.W.Frag) (H : Hp) (a : Addr) (ps : List (Nat × Nat)) : Prop := ∃ ts : List Addr, SqL K H a (ts.map V.ref) ∧ Al2 (fun t p => SqT K H t (tp p)) ts ps
theorem PairsAt.same {K : PySem.W.Frag} {H H' : Hp} {a : Addr} {ps : List (Nat × Nat)} (e : Same H H') (h : PairsAt K H a ps) : PairsAt K H' a ps := by
  obtain ⟨ts, h1, h2⟩ := h
  exact ⟨ts, e.seq h1, h2.mono fun _ _ q => same_t e q⟩
theorem ref_at {ts : List Addr} {i : Nat} {x : V} (h : (ts.map V.ref)[i]? = some x) : ∃ t, ts[i]? = some t ∧ x = .ref t := by
  rw [List.getElem?_map] at h
  cases e : ts[i]? with
  | none =>
    rw [e] at h
    cases h
  | some t =>
    rw [e] at h
    exact ⟨t, rfl, (Option.some.inj h).symm⟩
theorem vI_at {l : List Nat} {i n : Nat} (h : l[i]? = some n) : (l.map vI)[i]? = some (vI n) := by
  rw [List.getElem?_map, h]
  rfl
theorem iteD {c : Prop} [Decidable c] {A B : Prop} (h1 : c → A) (h2 : ¬ c → B) : if decide c = true then A else B := by
  by_cases h : c
  · rw [if_pos (decide_eq_true h)]
    exact h1 h
  · rw [decide_eq_false h, if_neg Bool.false_ne_true]
    exact h2 h
theorem small_line {n : Nat} (h : n ≤ 100000) : n < sizeLine := Nat.lt_of_le_of_lt h (by decide)
theorem sum_nat : ∀ l : List Nat, (l.map Int.ofNat).sum = ((l.sum : Nat) : Int)
  | [] => rfl
  | x :: r => by
    rw [List.map_cons, List.sum_cons, List.sum_cons, sum_nat r, Int.natCast_add]
    rfl
/-! ### pairs -/
theorem pairs_len : ∀ l : List Nat, (pairs l).length = l.length / 2
  | [] => rfl
  | [_] => by
    show 0 = 1 / 2
    rfl
  | u :: v :: r => by
    show (pairs r).length + 1 = (r.length + 1 + 1) / 2
    rw [pairs_len r]
    omega
theorem pairs_get : ∀ {l : List Nat} {i u v : Nat}, l[2 * i]? = some u → l[2 * i + 1]? = some v → (pairs l)[i]? = some (u, v)
  | [], _, _, _, h, _ => by simp at h
  | [_], 0, _, _, _, h => by simp at h
  | [_], i + 1, _, _, h, _ => by
    rw [show 2 * (i + 1) = 2 * i + 1 + 1 by omega] at h
    simp at h
  | a :: b :: r, 0, u, v, h, h2 => by
    have e1 : a = u := Option.some.inj h
    have e2 : b = v := Option.some.inj h2
    rw [← e1, ← e2]
    rfl
  | a :: b :: r, i + 1, u, v, h, h2 => by
    rw [show 2 * (i + 1) = 2 * i + 1 + 1 by omega] at h h2
    exact pairs_get (l := r) (i := i) h h2
theorem rg2 (m : Nat) (hm : m ≤ 30) : RgC 0 ((2 * m : Nat) : Int) 2 m := by
  have h : ∀ m : Fin 31, (Builtin.Range.small 0 ((2 * m.val : Nat) : Int) 2 = true ∧ Builtin.Range.rangeSize 0 ((2 * m.val : Nat) : Int) 2 = m.val) := by decide +kernel
  have := h ⟨m, by omega⟩
  exact ⟨by decide, by decide, this.1, this.2⟩
end Mc
namespace Mc
open PySem PySem.Spec PyProof.Rows L2
def topS (i : Nat) : Stmt := PySem.Challenge.pw_mapcounts_s03_rounds.main.body.getD i (.Pass ⟨0, 0, 0, 0⟩)
end Mc
namespace Mc
open PySem PySem.Spec PyProof.Rows L2
abbrev sPairs : Stmt := topS 4
theorem scP : FnScope ["flat", "at"] ["flat"] (defScope sPairs) := ⟨rfl, rfl, rfl, by decide +kernel, rfl, by decide +kernel, by decide +kernel⟩
section
variable {P : Program} {w : World} {K : PySem.W.Frag} {mg : Str → Option Value} {base : Heap}
def spPairs (K : PySem.W.Frag) : Sp := fun vs H Q _ => ∃ (a : Addr) (l : List Nat), vs = [.ref a] ∧ SqL K H a (l.map vI) ∧ l.length % 2 = 0 ∧ l.length ≤ 60 ∧ ∀ H' p, Same H H' → PairsAt K H' p (pairs l) → Q (.ref p) H'
theorem ok_pairs {f : Addr} {fd : FuncData} {k : Nat} (F : Fun K "pairs_of" "pairs_of" sPairs f fd) (mr : mg "range" = none) (ml : mg "len" = none) : FnOk P w K mg base CX0 (k + 1) f fd ["flat"] (spPairs K) := by
  refine F.ok scP (fun vs H Q E h => ?_) (fun cdv A outer s H vs Q E hr h => ?_)
  · obtain ⟨a, l, rfl, _⟩ := h
    rfl
  · obtain ⟨a, l, rfl, hS, hev, hlen, q⟩ := h
    refine ⟨_, pss_one (ps_ret (pe_lc (own := [("at", 1)]) (g := gName 1) (tt := tYes) (te := tTup (tCons (tOp (rIxL K) (tVar 0) (tVar 1)) (tCons (tOp (rIxL K) (tVar 0) (tOp (rI0 fun i j => .int (i + j)) (tVar 1) (tC (.int 1)))) tNil))) rfl scP.nd
      (pi_range3 rfl mr (pa_cons pe_int (pa_cons (pe_callB call_len_seq (by rfl) ml PySem.boot_len (pa_cons (pv 0) pa_nil)) (pa_cons pe_int pa_nil))))
      (blkOk_by (N := ["flat", "at"]) (sc := defScope sPairs) (by decide +kernel))
      (fun _ _ _ _ _ => pg_name (i := 1) scP.nd rfl (Or.inl rfl)) (fun _ _ _ _ _ => pts_nil)
      (fun _ _ _ _ _ => by exact pe_tup (pa_cons (pe_ix ix_list (pv 0) (pv 1) (fun _ _ => rfl)) (pa_cons (pe_ix ix_list (pv 0) (pe_op op_add (pv 1) pe_int) (fun _ _ => rfl)) pa_nil))))), ?_⟩
    refine ⟨.ref a, rfl, a, l.map vI, rfl, .inl hS, 0, _, 2, l.length / 2, rfl, ?_, fun D hD => ?_⟩
    · rw [List.length_map, show l.length = 2 * (l.length / 2) by omega, show 2 * (l.length / 2) / 2 = l.length / 2 by omega]
      exact rg2 _ (by omega)
    · refine lc_it walk_rangeC (fun i H' => ∃ ts : List Addr, Same H H' ∧ H' D = some (.lst (ts.map V.ref)) ∧ Al2 (fun t p => H' t = some (.tup (tp p))) ts ((pairs l).take i))
        ⟨[], same_upd hD, upd_same, .nil⟩ (fun _ _ _ _ => trivial) (fun i x H1 H2 hi hP hy => ?_) (fun H1 hP => ?_)
      · obtain ⟨rfl, rfl⟩ := hy
        obtain ⟨ts, sm, hd, ha⟩ := hP
        obtain ⟨u, hu⟩ : ∃ u, l[2 * i]? = some u := ⟨_, List.getElem?_eq_getElem (show 2 * i < l.length by omega)⟩
        obtain ⟨v, hv⟩ : ∃ v, l[2 * i + 1]? = some v := ⟨_, List.getElem?_eq_getElem (show 2 * i + 1 < l.length by omega)⟩
        have hS2 := sm.seq hS
        have e1 : ((0 : Int) + (i : Nat) * 2) = ((2 * i : Nat) : Int) := by omega
        have e2 : ((0 : Int) + (i : Nat) * 2 + 1) = ((2 * i + 1 : Nat) : Int) := by omega
        refine ⟨rfl, ?_⟩
        refine ⟨.ref a, rfl, _, rfl, a, l.map vI, _, vI u, rfl, rfl, hS2, at_of e1 (vI_at hu), .ref a, rfl, _, rfl, _, _, rfl, rfl, a, l.map vI, _, vI v, rfl, rfl, hS2, at_of e2 (vI_at hv), (by show 2 ≤ sizeLine; decide), fun T nT => ?_⟩
        have nDT : D ≠ T := ne_of_none hd nT
        refine ⟨ts.map V.ref, ?_, ?_, ts ++ [T], ?_, ?_, ?_⟩
        · rw [upd_ne nDT]
          exact hd
        · rw [List.length_map, ha.len]
          refine small_line (Nat.le_trans (List.length_take_le _ _) ?_)
          omega
        · exact same_past (sm.trans (same_upd nT)) hD
        · rw [upd_same, List.map_append]
          rfl
        · rw [take_snoc (pairs_get hu hv)]
          refine Al2.snoc (ha.mono fun t p e => ?_) ?_
          · rw [upd_ne (ne_of e hd (by intro z; cases z)), upd_ne (ne_of_none e nT)]
            exact e
          · rw [upd_ne (Ne.symm nDT), upd_same]
            rfl
      · obtain ⟨ts, sm, hd, ha⟩ := hP
        refine q H1 D sm ⟨ts, SqL.of hd, ?_⟩
        rw [← pairs_len, List.take_length] at ha
        exact ha.mono fun t p e => SqT.of e
end
end Mc
namespace Mc
open PySem PySem.Spec PyProof.Rows L2
abbrev sIs : Stmt := topS 5
theorem scI : FnScope ["places", "flat", "last_rank", "start", "end", "rank"] ["places", "flat"] (defScope sIs) := ⟨rfl, rfl, rfl, by decide +kernel, rfl, by decide +kernel, by decide +kernel⟩
section
variable {P : Program} {w : World} {K : PySem.W.Frag} {mg : Str → Option Value} {base : Heap}
def spIs (K : PySem.W.Frag) : Sp := fun vs H Q _ => ∃ (n : Nat) (a : Addr) (l : List Nat), vs = [vI n, .ref a] ∧ SqL K H a (l.map vI) ∧ l.length ≤ 60 ∧ ∀ H', Same H H' → Q (.bl (isGraph n l)) H'
theorem ok_is {f fP : Addr} {fd fdP : FuncData} {k : Nat} (F : Fun K "is_graph" "is_graph" sIs f fd) (FP : Fun K "pairs_of" "pairs_of" sPairs fP fdP) (bP : Binds K fdP ["flat"] []) (gP : mg "pairs_of" = some (.ref fP))
    (mr : mg "range" = none) (ml : mg "len" = none) {t5 : Tok} (g5 : mg "MOST_PLACES" = some (.int 5 t5)) : FnOk P w K mg base CX0 (k + 2) f fd ["places", "flat"] (spIs K) := by
  have GP : FnOk P w K mg base CX0 (k + 1) fP fdP ["flat"] (spPairs K) := ok_pairs FP mr ml
  refine F.ok scI (fun vs H Q E h => ?_) (fun cdv A outer s H vs Q E hr h => ?_)
  · obtain ⟨n, a, l, rfl, _⟩ := h
    rfl
  · obtain ⟨n, a, l, rfl, hS, hlen, q⟩ := h
    refine ⟨_, pss_cons (ps_if (PW.pt (pw_or (pt_cmpR op_lt (pv 0) pe_int (nomark _)) (pw_or (pt_cmpR op_gt (pv 0) (pe_glob (v := .int 5) rfl g5 ⟨_, rfl⟩) (nomark _)) (pw_or1 (pt_cmpR op_eq (pe_op op_mod (pe_callB call_len_seq (by rfl) ml PySem.boot_len (pa_cons (pv 1) pa_nil)) pe_int) pe_int (nomark _)))))) (pss_one (ps_ret pe_bl)) pss_nil)
      (pss_cons (ps_set (i := 2) scI.nd rfl (.inl rfl) (pe_un un_neg pe_int))
      (pss_cons (ps_for PassesOwn.never rfl (pi_list (pe_call GP hr (by rfl) gP FP.kp bP .nil pass0 (pa_cons (pv 1) pa_nil)))
          (pg_tup rfl (pgs_cons (pg_name (i := 3) scI.nd rfl (.inl rfl)) (pgs_cons (pg_name (i := 4) scI.nd rfl (.inl rfl)) pgs_nil)))
        (pss_cons (ps_if (PW.pt (pw_or (pt_cmpR op_ge (pv 3) (pv 0) (nomark _)) (pw_or1 (pt_cmpR op_ge (pv 4) (pv 0) (nomark _))))) (pss_one (ps_ret pe_bl)) pss_nil)
        (pss_cons (ps_set (i := 5) scI.nd rfl (.inl rfl) (pe_op op_add (pe_op op_mul (pv 3) (pv 0)) (pv 4)))
        (pss_cons (ps_if (pt_cmpR op_le (pv 5) (pv 2) (nomark _)) (pss_one (ps_ret pe_bl)) pss_nil)
        (pss_one (ps_set (i := 2) scI.nd rfl (.inl rfl) (pv 5)))))))
      (pss_one (ps_ret pe_bl)))), ?_⟩
    refine ⟨_, rfl, _, _, rfl, rfl, _, rfl, iteD (fun c1 => ?_) (fun c1 => ?_)⟩
    · have e : isGraph n l = false := if_pos (show n < 1 ∨ 5 < n ∨ l.length % 2 = 1 by omega)
      have q1 := q H (Same.refl H)
      rw [e] at q1
      exact q1
    refine ⟨_, rfl, _, _, rfl, rfl, _, rfl, iteD (fun c2 => ?_) (fun c2 => ?_)⟩
    · have e : isGraph n l = false := if_pos (show n < 1 ∨ 5 < n ∨ l.length % 2 = 1 by omega)
      have q1 := q H (Same.refl H)
      rw [e] at q1
      exact q1
    refine ⟨_, rfl, a, l.map vI, rfl, .inl hS, _, _, rfl, rfl, (by show (0 : Int) < 2; decide), rfl, _, rfl, iteD (fun c3 => ?_) (fun c3 => ?_)⟩
    · have c4 : ((l.map vI).length : Int) % 2 = 1 := V.int.inj c3
      rw [List.length_map] at c4
      have e : isGraph n l = false := if_pos (show n < 1 ∨ 5 < n ∨ l.length % 2 = 1 by omega)
      have q1 := q H (Same.refl H)
      rw [e] at q1
      exact q1
    have hev : ¬ l.length % 2 = 1 := fun z => c3 (congrArg V.int (by rw [List.length_map]; omega))
    have hG : isGraph n l = risesFrom n (-1) (pairs l) := if_neg (show ¬ (n < 1 ∨ 5 < n ∨ l.length % 2 = 1) by omega)
    rw [hG] at q
    refine ⟨1, rfl, .ref a, rfl, a, l, rfl, hS, by omega, hlen, fun H1 p s1 hP => ?_⟩
    obtain ⟨ts, hts, ha⟩ := hP
    refine ⟨p, rfl, ⟨_, hts⟩, for_list (K := K) (a := p) (xs := ts.map V.ref) (fun i σ H' => ∃ (last : Int) (y3 y4 y5 : Option V), σ = [some (vI n), some (.ref a), some (.int last), y3, y4, y5] ∧ Same H1 H' ∧ risesFrom n (-1) (pairs l) = risesFrom n last ((pairs l).drop i))
      ⟨-1, none, none, none, rfl, Same.refl _, rfl⟩ (fun i σ H' _ ⟨_, _, _, _, _, s5, _⟩ => s5.seq hts) ?_ ?_⟩
    · rintro i y σ H' hi ⟨last, y3, y4, y5, rfl, s5, hr5⟩
      obtain ⟨t, ht, rfl⟩ := ref_at hi
      obtain ⟨⟨u, v⟩, hp, hT⟩ := ha.at ht
      have hstep : (pairs l).drop i = (u, v) :: (pairs l).drop (i + 1) := by
        obtain ⟨h1, h2⟩ := List.getElem?_eq_some_iff.mp hp
        rw [List.drop_eq_getElem_cons h1, h2]
      rw [hstep] at hr5
      refine ⟨t, _, rfl, same_t s5 hT, rfl, _, _, rfl, _, _, rfl, rfl, ?_⟩
      refine ⟨_, rfl, _, rfl, _, _, rfl, rfl, _, rfl, iteD (fun d1 => ?_) (fun d1 => ?_)⟩
      · have e : risesFrom n (-1) (pairs l) = false := by
          rw [hr5]
          exact if_pos (show n ≤ u ∨ n ≤ v by omega)
        rw [e] at q
        exact q H' (s1.trans s5)
      refine ⟨_, rfl, _, rfl, _, _, rfl, rfl, _, rfl, iteD (fun d2 => ?_) (fun d2 => ?_)⟩
      · have e : risesFrom n (-1) (pairs l) = false := by
          rw [hr5]
          exact if_pos (show n ≤ u ∨ n ≤ v by omega)
        rw [e] at q
        exact q H' (s1.trans s5)
      have e1 : risesFrom n last ((u, v) :: (pairs l).drop (i + 1)) = (if (rank n (u, v) : Int) ≤ last then false else risesFrom n (rank n (u, v) : Nat) ((pairs l).drop (i + 1))) := if_neg (show ¬ (n ≤ u ∨ n ≤ v) by omega)
      rw [e1] at hr5
      have e2 : ((u : Int) * (n : Int) + (v : Int)) = ((rank n (u, v) : Nat) : Int) := by
        show _ = ((u * n + v : Nat) : Int)
        rw [Int.natCast_add, Int.natCast_mul]
      refine ⟨_, rfl, _, rfl, _, _, rfl, rfl, .inl ⟨by omega, by omega⟩, _, rfl, _, _, rfl, rfl, ?_⟩
      refine ⟨_, rfl, _, rfl, _, _, rfl, rfl, _, rfl, iteD (fun d3 => ?_) (fun d3 => ?_)⟩
      · rw [e2] at d3
        rw [if_pos d3] at hr5
        rw [hr5] at q
        exact q H' (s1.trans s5)
      · rw [e2] at d3
        rw [if_neg d3] at hr5
        refine ⟨_, rfl, (rank n (u, v) : Nat), some (vI u), some (vI v), some (.int (rank n (u, v) : Nat)), ?_, s5, hr5⟩
        show [some (vI n), some (.ref a), some (.int ((u : Int) * (n : Int) + (v : Int))), some (vI u), some (vI v), some (.int ((u : Int) * (n : Int) + (v : Int)))] = _
        rw [e2]
    · rintro σ H' ⟨last, y3, y4, y5, rfl, s5, hr5⟩
      rw [List.length_map, ha.len, List.drop_length] at hr5
      rw [hr5] at q
      exact q H' (s1.trans s5)
end
end Mc
namespace Mc
open PySem PySem.Spec PyProof.Rows L2
abbrev sLong : Stmt := topS 6
theorem scL : FnScope ["ending", "arrows", "longer", "start", "end", "place"] ["ending", "arrows"] (defScope sLong) := ⟨rfl, rfl, rfl, by decide +kernel, rfl, by decide +kernel, by decide +kernel⟩
section
variable {P : Program} {w : World} {K : PySem.W.Frag} {mg : Str → Option Value} {base : Heap}
def spLong (K : PySem.W.Frag) : Sp := fun vs H Q _ => ∃ (a b : Addr) (e : List Nat) (ps : List (Nat × Nat)), vs = [.ref a, .ref b] ∧ SqL K H a (e.map vI) ∧ PairsAt K H b ps ∧ e.length ≤ 1000 ∧ (∀ p ∈ ps, p.1 < e.length ∧ p.2 < e.length) ∧
  ∀ H' p, Same H H' → SqL K H' p ((longer e ps).map vI) → Q (.ref p) H'
theorem ok_long {f : Addr} {fd : FuncData} {k : Nat} (F : Fun K "one_arrow_longer" "one_arrow_longer" sLong f fd) : FnOk P w K mg base CX0 (k + 1) f fd ["ending", "arrows"] (spLong K) := by
  refine F.ok scL (fun vs H Q E h => ?_) (fun cdv A outer s H vs Q E hr h => ?_)
  · obtain ⟨a, b, e, ps, rfl, _⟩ := h
    rfl
  · obtain ⟨a, b, e, ps, rfl, hE, hA, hlen, hin, q⟩ := h
    refine ⟨_, pss_cons (ps_setLc (i := 2) (own := [("place", 5)]) (g := gName 5) (tt := tYes) (te := tC (.int 0)) (by rfl) scL.nd rfl rfl (sw_true rfl rfl rfl (by decide +kernel)) (pi_list (pv 0))
        (blkOk_by (N := ["ending", "arrows", "longer", "start", "end", "place"]) (sc := defScope sLong) (by decide +kernel)) (fun _ _ _ _ _ => pg_name (i := 5) scL.nd rfl (Or.inl rfl)) (fun _ _ _ _ _ => pts_nil) (fun _ _ _ _ _ => pe_int))
      (pss_cons (ps_for PassesOwn.never rfl (pi_list (pv 1)) (pg_tup rfl (pgs_cons (pg_name (i := 3) scL.nd rfl (.inl rfl)) (pgs_cons (pg_name (i := 4) scL.nd rfl (.inl rfl)) pgs_nil)))
        (pss_one (ps_asg (pe_op op_add (pe_ix ix_list (pv 2) (pv 4) (fun _ _ => rfl)) (pe_ix ix_list (pv 0) (pv 3) (fun _ _ => rfl))) (pg_sub (pv 2) (pv 4) set_list))))
      (pss_one (ps_ret (pv 2)))), ?_⟩
    refine ⟨_, rfl, a, rfl, ⟨_, hE⟩, fun D hD => ?_⟩
    refine lc_list (K := K) (a := a) (xs := e.map vI) (fun i H' => Same H H' ∧ H' D = some (.lst ((List.replicate i 0).map vI))) ⟨same_upd hD, upd_same⟩ (fun i H' _ h => h.1.seq hE) (fun i x H' hi hP => ?_) (fun H1 hP => ?_)
    · obtain ⟨sm, hd⟩ := hP
      refine ⟨rfl, _, hd, ?_, same_past sm hD, ?_⟩
      · obtain ⟨h1, _⟩ := List.getElem?_eq_some_iff.mp hi
        rw [List.length_map] at h1
        rw [List.length_map, List.length_replicate]
        exact small_line (by omega)
      · rw [upd_same, List.replicate_succ', List.map_append]
        rfl
    · obtain ⟨s1, hd⟩ := hP
      rw [List.length_map] at hd
      obtain ⟨ts, hts, ha⟩ := hA
      refine ⟨_, rfl, b, rfl, ⟨_, s1.seq hts⟩, for_list (K := K) (a := b) (xs := ts.map V.ref) (fun i σ H' => ∃ (y3 y4 : Option V), σ = [some (.ref a), some (.ref b), some (.ref D), y3, y4, none] ∧ Same H H' ∧ H' D = some (.lst (((ps.take i).foldl (addAt e) (List.replicate e.length 0)).map vI)))
        ⟨none, none, rfl, s1, hd⟩ (fun i σ H' _ ⟨_, _, _, s5, _⟩ => s5.seq hts) ?_ ?_⟩
      · rintro i y σ H' hi ⟨y3, y4, rfl, s5, h5⟩
        obtain ⟨t, ht, rfl⟩ := ref_at hi
        obtain ⟨⟨u, v⟩, hp, hT⟩ := ha.at ht
        obtain ⟨hu, hv⟩ := hin _ (List.mem_of_getElem? hp)
        have hu : u < e.length := hu
        have hv : v < e.length := hv
        have hL : ((ps.take i).foldl (addAt e) (List.replicate e.length 0)).length = e.length := by rw [fold_len, List.length_replicate]
        generalize hM : (ps.take i).foldl (addAt e) (List.replicate e.length 0) = L at h5 hL
        have gv : L[v]? = some (L.getD v 0) := by
          rw [List.getD_eq_getElem?_getD, List.getElem?_eq_getElem (by omega)]
          rfl
        have gu : e[u]? = some (e.getD u 0) := by
          rw [List.getD_eq_getElem?_getD, List.getElem?_eq_getElem (by omega)]
          rfl
        refine ⟨t, _, rfl, same_t s5 hT, rfl, _, _, rfl, _, _, rfl, rfl, ?_⟩
        refine ⟨_, rfl, _, rfl, D, _, _, _, rfl, rfl, SqL.of h5, at_of rfl (vI_at gv), _, rfl, _, rfl, a, _, _, _, rfl, rfl, s5.seq hE, at_of rfl (vI_at gu), _, _, rfl, rfl, ?_⟩
        refine ⟨_, rfl, _, rfl, D, _, _, v, rfl, rfl, h5, ?_, some (vI u), some (vI v), rfl, same_past s5 hD, ?_⟩
        · show ixN _ (v : Int) = some v
          unfold ixN
          rw [List.length_map, hL, if_pos (by omega), if_pos (by omega)]
          simp
        · rw [upd_same, take_snoc hp, List.foldl_append, hM]
          show some (HO.lst ((L.map vI).set v (V.int ((L.getD v 0 : Nat) + (e.getD u 0 : Nat))))) = some (HO.lst ((L.set v (L.getD v 0 + e.getD u 0)).map vI))
          rw [List.map_set]
          rfl
      · rintro σ H' ⟨y3, y4, rfl, s5, h5⟩
        rw [List.length_map, ha.len, List.take_length] at h5
        exact ⟨_, rfl, q H' D s5 (SqL.of h5)⟩
end
end Mc
namespace Mc
open PySem PySem.Spec PyProof.Rows L2
abbrev sBy : Stmt := topS 7
theorem scBy : FnScope ["steps", "ending", "arrows", "longer", "step"] ["steps", "ending", "arrows"] (defScope sBy) := ⟨rfl, rfl, rfl, by decide +kernel, rfl, by decide +kernel, by decide +kernel⟩
section
variable {P : Program} {w : World} {K : PySem.W.Frag} {mg : Str → Option Value} {base : Heap}
def spBy (K : PySem.W.Frag) : Sp := fun vs H Q _ => ∃ (k : Nat) (a b : Addr) (e : List Nat) (ps : List (Nat × Nat)), vs = [vI k, .ref a, .ref b] ∧ k ≤ 1000 ∧ SqL K H a (e.map vI) ∧ PairsAt K H b ps ∧ e.length ≤ 1000 ∧ (∀ p ∈ ps, p.1 < e.length ∧ p.2 < e.length) ∧
  ∀ H' p, Same H H' → SqL K H' p ((goOn ps e k).map vI) → Q (.ref p) H'
theorem ok_by {f fL : Addr} {fd fdL : FuncData} {lv : Nat} (F : Fun K "longer_by" "longer_by" sBy f fd)
    (FL : Fun K "one_arrow_longer" "one_arrow_longer" sLong fL fdL) (bL : Binds K fdL ["ending", "arrows"] []) (gL : mg "one_arrow_longer" = some (.ref fL)) (mr : mg "range" = none) :
    FnOk P w K mg base CX0 (lv + 2) f fd ["steps", "ending", "arrows"] (spBy K) := by
  have GL : FnOk P w K mg base CX0 (lv + 1) fL fdL ["ending", "arrows"] (spLong K) := ok_long FL
  refine F.ok scBy (fun vs H Q E h => ?_) (fun cdv A outer s H vs Q E hr h => ?_)
  · obtain ⟨k, a, b, e, ps, rfl, _⟩ := h
    rfl
  · obtain ⟨k, a, b, e, ps, rfl, hk, hE, hA, hlen, hin, q⟩ := h
    refine ⟨_, pss_cons (ps_set (i := 3) scBy.nd rfl (.inl rfl) (pv 1))
      (pss_cons (ps_for PassesOwn.never rfl (pi_range1 rfl mr (pa_cons (pv 0) pa_nil)) (pg_name (i := 4) scBy.nd rfl (.inl rfl))
        (pss_one (ps_set (i := 3) scBy.nd rfl (.inl rfl) (pe_call GL hr (by rfl) gL FL.kp bL .nil pass0 (pa_cons (pv 3) (pa_cons (pv 2) pa_nil))))))
      (pss_one (ps_ret (pv 3)))), ?_⟩
    refine ⟨_, rfl, _, rfl, k, rfl, by omega, by omega, for_range (lo := 0) (n := k) (fun i σ H' => ∃ (d : Addr) (y4 : Option V), σ = [some (vI k), some (.ref a), some (.ref b), some (.ref d), y4] ∧ Same H H' ∧ SqL K H' d ((goOn ps e i).map vI))
      ⟨a, none, rfl, Same.refl _, hE⟩ ?_ ?_⟩
    · rintro i σ H' hi ⟨d, y4, rfl, s5, h5⟩
      refine ⟨_, rfl, _, rfl, d, b, goOn ps e i, ps, rfl, h5, hA.same s5, ?_, ?_, fun H6 d6 s6 h6 => ?_⟩
      · rw [goOn_len]
        exact hlen
      · rw [goOn_len]
        exact hin
      · exact ⟨d6, _, rfl, s5.trans s6, h6⟩
    · rintro σ H' ⟨d, y4, rfl, s5, h5⟩
      exact ⟨_, rfl, q H' d s5 h5⟩
end
end Mc
namespace Mc
open PySem PySem.Spec PyProof.Rows L2
abbrev sRounds : Stmt := topS 8
theorem scR : FnScope ["n", "k", "first", "arrows", "total", "home", "from_home", "place"] ["n", "k", "first"] (defScope sRounds) := ⟨rfl, rfl, rfl, by decide +kernel, rfl, by decide +kernel, by decide +kernel⟩
section
variable {P : Program} {w : World} {K : PySem.W.Frag} {mg : Str → Option Value} {base : Heap}
def spRounds (K : PySem.W.Frag) : Sp := fun vs H Q _ => ∃ (n k : Nat) (a : Addr) (l : List Nat), vs = [vI n, vI k, .ref a] ∧ SqL K H a (l.map vI) ∧ l.length ≤ 60 ∧ ∀ H' p, SqL K H' p ((roundsAns n k l).map V.int) → Q (.ref p) H'
theorem ok_rounds {f fP fI fL fB : Addr} {fd fdP fdI fdL fdB : FuncData} (F : Fun K "rounds" "rounds" sRounds f fd) (FP : Fun K "pairs_of" "pairs_of" sPairs fP fdP) (bP : Binds K fdP ["flat"] []) (gP : mg "pairs_of" = some (.ref fP))
    (FI : Fun K "is_graph" "is_graph" sIs fI fdI) (bI : Binds K fdI ["places", "flat"] []) (gI : mg "is_graph" = some (.ref fI))
    (FL : Fun K "one_arrow_longer" "one_arrow_longer" sLong fL fdL) (bL : Binds K fdL ["ending", "arrows"] []) (gL : mg "one_arrow_longer" = some (.ref fL))
    (FB : Fun K "longer_by" "longer_by" sBy fB fdB) (bB : Binds K fdB ["steps", "ending", "arrows"] []) (gB : mg "longer_by" = some (.ref fB))
    (mr : mg "range" = none) (ml : mg "len" = none) {t5 t12 t22 : Tok} (g5 : mg "MOST_PLACES" = some (.int 5 t5)) (g12 : mg "MOST_STEPS" = some (.int 12 t12)) (g22 : mg "NOT_AS_TOLD" = some (.int (-22) t22)) :
    FnOk P w K mg base CX0 3 f fd ["n", "k", "first"] (spRounds K) := by
  have GP : FnOk P w K mg base CX0 1 fP fdP ["flat"] (spPairs K) := ok_pairs FP mr ml
  have GI : FnOk P w K mg base CX0 2 fI fdI ["places", "flat"] (spIs K) := ok_is FI FP bP gP mr ml g5
  have GB : FnOk P w K mg base CX0 2 fB fdB ["steps", "ending", "arrows"] (spBy K) := ok_by FB FL bL gL mr
  refine F.ok scR (fun vs H Q E h => ?_) (fun cdv A outer s H vs Q E hr h => ?_)
  · obtain ⟨n, k, a, l, rfl, _⟩ := h
    rfl
  · obtain ⟨n, k, a, l, rfl, hS, hlen, q⟩ := h
    have hr1 : Room 1 _ := hr.mono (by decide)
    refine ⟨_, pss_cons (ps_if (PW.pt (pw_or (pt_not (pt_val (pe_call GI hr (by rfl) gI FI.kp bI .nil pass0 (pa_cons (pv 0) (pa_cons (pv 2) pa_nil))))) (pw_or1 (pt_cmpR op_gt (pv 1) (pe_glob (v := .int 12) rfl g12 ⟨_, rfl⟩) (nomark _)))))
        (pss_one (ps_ret (pe_lst (pa_cons (pe_glob (v := .int (-22)) rfl g22 ⟨_, rfl⟩) pa_nil)))) pss_nil)
      (pss_cons (ps_set (i := 3) scR.nd rfl (.inl rfl) (pe_call GP hr1 (by rfl) gP FP.kp bP .nil pass0 (pa_cons (pv 2) pa_nil)))
      (pss_cons (ps_set (i := 4) scR.nd rfl (.inl rfl) pe_int)
      (pss_cons (ps_for PassesOwn.never rfl (pi_range1 rfl mr (pa_cons (pv 0) pa_nil)) (pg_name (i := 5) scR.nd rfl (.inr rfl))
        (pss_cons (ps_setLc (i := 6) (own := [("place", 7)]) (g := gName 7) (tt := tYes) (te := tIf (tTest (tOp rEq (tVar 7) (tVar 5))) (tC (.int 1)) (tC (.int 0))) (by rfl) scR.nd rfl rfl (sw_true rfl rfl rfl (by decide +kernel)) (pi_range1 rfl mr (pa_cons (pv 0) pa_nil))
          (blkOk_by (N := ["n", "k", "first", "arrows", "total", "home", "from_home", "place"]) (sc := defScope sRounds) (by decide +kernel)) (fun _ _ _ _ _ => pg_name (i := 7) scR.nd rfl (Or.inl rfl)) (fun _ _ _ _ _ => pts_nil)
          (fun _ _ _ _ _ => by exact pe_ifExp (pt_cmpR op_eq (pv 7) (pv 5) (nomark _)) pe_int pe_int))
        (pss_one (ps_set (i := 4) scR.nd rfl (.inl rfl) (pe_op op_add (pv 4) (pe_ix ix_list (pe_call GB hr (by rfl) gB FB.kp bB .nil pass0 (pa_cons (pv 1) (pa_cons (pv 6) (pa_cons (pv 3) pa_nil)))) (pv 5) (fun _ _ => rfl)))))))
      (pss_one (ps_ret (pe_lst (pa_cons (pv 4) pa_nil))))))), ?_⟩
    refine ⟨_, rfl, _, rfl, n, a, l, rfl, hS, hlen, fun H1 s1 => ?_⟩
    refine ⟨_, rfl, ?_⟩
    have bad : ¬ (isGraph n l = true ∧ k ≤ 12) → ∀ H2 : Hp, tRet (tLst (tCons (tC (V.int (-22))) tNil)) { nx := fun _ _ => True, rt := Q } [] H2 := fun z H2 => by
      refine ⟨(by show 1 ≤ sizeLine; decide), fun p hp => q _ p (SqL.of ?_)⟩
      unfold roundsAns
      rw [if_neg z]
      exact upd_same
    cases hG : isGraph n l with
    | false => exact bad (fun z => by rw [hG] at z; exact Bool.false_ne_true z.1) H1
    | true =>
      obtain ⟨hn1, hn5, hev, hgood⟩ := isGraph_good hG
      refine ⟨_, rfl, _, _, rfl, rfl, _, rfl, iteD (fun c2 => ?_) (fun c2 => ?_)⟩
      · exact bad (fun z => by have := z.2; omega) H1
      have hk : k ≤ 12 := by omega
      have q' : ∀ H' p, SqL K H' p [vI (S n (back n (pairs l) k))] → Q (.ref p) H' := fun H' p h => q H' p (by
        unfold roundsAns
        rw [if_pos ⟨hG, hk⟩]
        exact h)
      refine ⟨_, rfl, a, l, rfl, s1.seq hS, hev, hlen, fun H2 b s2 hP => ?_⟩
      refine ⟨_, rfl, n, rfl, by omega, by omega, for_range (lo := 0) (n := n) (fun i σ H' => ∃ (y5 y6 : Option V), σ = [some (vI n), some (vI k), some (.ref a), some (.ref b), some (vI (S i (back n (pairs l) k))), y5, y6, none] ∧ Same H2 H')
        ⟨none, none, rfl, Same.refl _⟩ ?_ ?_⟩
      · rintro i σ H3 hi ⟨y5, y6, rfl, s3⟩
        have ei : V.int (0 + (i : Int)) = vI i := by rw [Int.zero_add]; rfl
        refine ⟨_, rfl, n, rfl, by omega, by omega, fun D hD => ?_⟩
        refine lc_range (lo := 0) (n := n) (fun j H' => Same H3 H' ∧ H' D = some (.lst (((List.range j).map fun v => if v = i then 1 else 0).map vI))) ⟨same_upd hD, upd_same⟩ (fun j H' hj hP4 => ?_) (fun H4 hP4 => ?_)
        · obtain ⟨sm, hd⟩ := hP4
          have lr : ((List.range j).map fun v => if v = i then 1 else 0).length = j := by rw [List.length_map, List.length_range]
          have end' : ∀ x : Nat, x = (if j = i then 1 else 0) → ∃ acc, H' D = some (HO.lst acc) ∧ acc.length < sizeLine ∧ Same H3 (upd H' D (HO.lst (acc ++ [vI x]))) ∧
              upd H' D (HO.lst (acc ++ [vI x])) D = some (HO.lst (((List.range (j + 1)).map fun v => if v = i then 1 else 0).map vI)) := fun x hx => by
            refine ⟨_, hd, ?_, same_past sm hD, ?_⟩
            · rw [List.length_map, lr]
              exact small_line (by omega)
            · rw [upd_same, List.range_succ, List.map_append, List.map_append, hx]
              rfl
          refine ⟨rfl, _, rfl, _, rfl, rfl, _, rfl, iteD (fun c => ?_) (fun c => ?_)⟩
          · have c := V.int.inj c
            exact end' 1 (if_pos (by omega)).symm
          · exact end' 0 (if_neg (fun z => c (by rw [z]))).symm
        · obtain ⟨s4, hd⟩ := hP4
          have hL : (goOn (pairs l) (home n i) k).length = n := by rw [goOn_len, home_len]
          have gi : (goOn (pairs l) (home n i) k)[i]? = some (back n (pairs l) k i) := by
            unfold back
            rw [List.getD_eq_getElem?_getD, List.getElem?_eq_getElem (by omega)]
            rfl
          refine ⟨_, rfl, _, rfl, _, rfl, _, rfl, k, D, b, home n i, pairs l, rfl, by omega, SqL.of hd, (hP.same s3).same s4, ?_, ?_, fun H5 d s5 h5 => ?_⟩
          · rw [home_len]
            omega
          · rw [home_len]
            exact hgood.inn
          · refine ⟨_, rfl, d, _, _, _, rfl, ei, h5, at_of rfl (vI_at gi), _, _, rfl, rfl, some (V.int (0 + (i : Int))), some (.ref D), ?_, (s3.trans s4).trans s5⟩
            show [some (vI n), some (vI k), some (V.ref a), some (V.ref b), some (V.int (((S i (back n (pairs l) k) : Nat) : Int) + ((back n (pairs l) k i : Nat) : Int))), some (V.int (0 + (i : Int))), some (V.ref D), none] = _
            rw [S_succ, ← Int.natCast_add]
            rfl
      · rintro σ H3 ⟨y5, y6, rfl, s3⟩
        refine ⟨_, rfl, (by show 1 ≤ sizeLine; decide), fun p hp => q' _ p (SqL.of ?_)⟩
        exact upd_same
end
end Mc
namespace Mc
open PySem PySem.Spec PyProof.Rows L2
theorem in_int {lo hi z : Int} (h : PySem.W.Codec.inInt lo hi z = true) : lo ≤ z ∧ z ≤ hi := by
  unfold PySem.W.Codec.inInt at h
  rw [Bool.and_eq_true, decide_eq_true_eq, decide_eq_true_eq] at h
  exact h
theorem ints_nats {l : List Int} (h : ∀ z ∈ l, 0 ≤ z) : l.map V.int = (nats l).map vI := by
  unfold nats
  rw [List.map_map]
  refine List.map_congr_left fun z hz => ?_
  have := h z hz
  show V.int z = V.int ((z.toNat : Nat) : Int)
  rw [Int.toNat_of_nonneg this]
/-- what the top has written of a def -/
structure Said (K : PySem.W.Frag) (x : Str) (st : Stmt) (f : Addr) : Prop where
  at' : PySem.W.nsIn K mainGlobals x = some (some (.ref f))
  obj : ∃ (oc : Value) (od : Option Addr) (kV doc pm : Value) (an : Option Addr) (cdv ct : Value) (osl : Array (Option Value)), K.lookup f = some ⟨oc, od, .func (PySem.W.fnOf x x (defArgs st) (defBody st) (defScope st) .none kV doc pm an cdv ct), osl⟩ ∧ PySem.W.codeIn K cdv x = true
  keep : PySem.W.keepIn K (.ref f) = true
theorem said_mk {K : PySem.W.Frag} {x : Str} {st : Stmt} {f : Addr} {oc : Value} {od an : Option Addr} {osl : Array (Option Value)} {kV doc pm cdv ct : Value} (a : PySem.W.nsIn K mainGlobals x = some (some (.ref f)))
    (l : K.lookup f = some ⟨oc, od, .func (PySem.W.fnOf x x (defArgs st) (defBody st) (defScope st) .none kV doc pm an cdv ct), osl⟩) (c : PySem.W.codeIn K cdv x = true) (k : PySem.W.keepIn K (.ref f) = true) : Said K x st f := ⟨a, ⟨oc, od, kV, doc, pm, an, cdv, ct, osl, l, c⟩, k⟩
theorem Said.fun' {K : PySem.W.Frag} {x : Str} {st : Stmt} {f : Addr} (S : Said K x st f) : ∃ fd : FuncData, Fun K x x st f fd := by
  obtain ⟨oc, od, kV, doc, pm, an, cdv, ct, osl, l, c⟩ := S.obj
  exact ⟨_, fun_mk l c S.keep⟩
end Mc
namespace Mc
open PySem PySem.Spec PyProof.Rows L2
theorem all_rounds {P : Program} {w : World} {K : PySem.W.Frag} {h : Heap} {mg : Str → Option Value} {fa f1 f2 f3 f4 f5 : Addr} (X : K.In h) (G : h.Ns mainGlobals mg) (hfa : mg "rounds" = some (.ref fa))
    {t1 t2 t3 : Tok}
    (S1 : Said K "pairs_of" sPairs f1) (S2 : Said K "is_graph" sIs f2) (S3 : Said K "one_arrow_longer" sLong f3) (S4 : Said K "longer_by" sBy f4) (S5 : Said K "rounds" sRounds f5)
    (z1 : PySem.W.nsIn K mainGlobals "len" = some none) (z2 : PySem.W.nsIn K mainGlobals "range" = some none)
    (y1 : PySem.W.nsIn K mainGlobals "MOST_PLACES" = some (some (.int 5 t1))) (y2 : PySem.W.nsIn K mainGlobals "MOST_STEPS" = some (some (.int 12 t2))) (y3 : PySem.W.nsIn K mainGlobals "NOT_AS_TOLD" = some (some (.int (-22) t3))) :
    ∃ fd : FuncData, (∀ (s : Shared) (us : List Value), us.length = (["n", "k", "first"] : List Str).length → BindsTo s fd ⟨us, []⟩ ((["n", "k", "first"] : List Str).zip us)) ∧ ∀ base : Heap, K.In base → base.Ns mainGlobals mg → FnOk P w K mg base CX0 3 fa fd ["n", "k", "first"] (spRounds K) := by
  have e := hfa.symm.trans (PySem.W.mg_of X G S5.at')
  cases e
  obtain ⟨d1, F1⟩ := S1.fun'
  obtain ⟨d2, F2⟩ := S2.fun'
  obtain ⟨d3, F3⟩ := S3.fun'
  obtain ⟨d4, F4⟩ := S4.fun'
  obtain ⟨oc, od, kV, doc, pm, an, cdv, ct, osl, lE, cE⟩ := S5.obj
  have F5 := fun_mk lE cE S5.keep
  have b1 := F1.binds (ps := ["flat"]) fun _ _ _ _ _ _ us hl => match us, hl with | [_], _ => rfl
  have b2 := F2.binds (ps := ["places", "flat"]) fun _ _ _ _ _ _ us hl => match us, hl with | [_, _], _ => rfl
  have b3 := F3.binds (ps := ["ending", "arrows"]) fun _ _ _ _ _ _ us hl => match us, hl with | [_, _], _ => rfl
  have b4 := F4.binds (ps := ["steps", "ending", "arrows"]) fun _ _ _ _ _ _ us hl => match us, hl with | [_, _, _], _ => rfl
  have g := fun {x : Str} {f : Addr} (a : PySem.W.nsIn K mainGlobals x = some (some (.ref f))) => PySem.W.mg_of X G a
  refine ⟨PySem.W.fnOf "rounds" "rounds" (defArgs sRounds) (defBody sRounds) (defScope sRounds) .none kV doc pm an cdv ct, fun s us hu => match us, hu with | [_, _, _], _ => .of_eq rfl, fun base _ _ => ?_⟩
  exact ok_rounds F5 F1 b1 (g S1.at') F2 b2 (g S2.at') F3 b3 (g S3.at') F4 b4 (g S4.at') (PySem.W.mg_none_of X G z2) (PySem.W.mg_none_of X G z1) (PySem.W.mg_of X G y1) (PySem.W.mg_of X G y2) (PySem.W.mg_of X G y3)
end Mc
open PySem PySem.W PyProof.Rows
set_option maxRecDepth 100000 in
set_option maxHeartbeats 8000000 in
theorem PySem.Challenge.cw_mapcounts_s03_rounds_holds : PySem.Challenge.rw_mapcounts_s03_rounds.Holds := by
  w_on; k_headS; (case hw => exact ⟨[.int 0, .int 0, .list []], by decide +kernel, by decide +kernel⟩)
  k_fillS
  refine L2.walk_specK (r := PySem.Challenge.rw_mapcounts_s03_rounds) (k := 3) (CX := L2.CX0) (ps := ["n", "k", "first"]) (sp := Mc.spRounds) (by decide +kernel) rfl rfl ⟨rfl, by decide, by decide⟩ (fun w h Y => PySem.W.kIn_of Y) ?F ?S (fun _ _ _ _ z => z)
  case F =>
    intro w mg fa h Y KX G hmg
    refine' Mc.all_rounds KX G hmg (Mc.said_mk ?a1 ?l1 ?c1 ?k1) (Mc.said_mk ?a2 ?l2 ?c2 ?k2) (Mc.said_mk ?a3 ?l3 ?c3 ?k3) (Mc.said_mk ?a4 ?l4 ?c4 ?k4) (Mc.said_mk ?a5 ?l5 ?c5 ?k5) ?z1 ?z2 ?y1 ?y2 ?y3
    (case a1 => k_is); (case l1 => k_is); (case c1 => k_is); (case k1 => k_is)
    (case a2 => k_is); (case l2 => k_is); (case c2 => k_is); (case k2 => k_is)
    (case a3 => k_is); (case l3 => k_is); (case c3 => k_is); (case k3 => k_is)
    (case a4 => k_is); (case l4 => k_is); (case c4 => k_is); (case k4 => k_is)
    (case a5 => k_is); (case l5 => k_is); (case c5 => k_is); (case k5 => k_is)
    (case z1 => k_is); (case z2 => k_is)
    (case y1 => k_is); (case y2 => k_is); (case y3 => k_is)
  case S =>
    intro K H xs a hO hwi hask hx
    obtain ⟨n, k, l, u⟩ := a
    cases hx with
    | cons h1 h2 =>
      cases h2 with
      | cons h2 h3 =>
        cases h3 with
        | cons h3 h4 =>
          cases h4
          cases h1
          cases h2
          cases h3 with
          | lst hs ha =>
            have e := L2.ints_dw l _ ha
            subst e
            have q : (Codec.inInt 0 4294967295 n && (Codec.inInt 0 4294967295 k && ((Codec.inLen 0 60 l && l.all (Codec.inInt 0 4294967295)) && true))) = true := hwi
            simp only [Bool.and_eq_true] at q
            obtain ⟨q1, q2, ⟨q3, q4⟩, _⟩ := q
            have hn := (Mc.in_int q1).1
            have hk := (Mc.in_int q2).1
            have hl : ∀ z ∈ l, 0 ≤ z := fun z hz => (Mc.in_int (List.all_eq_true.mp q4 z hz)).1
            have hlen := (Codec.inNat_iff.mp q3).2
            rw [Mc.ints_nats hl] at hs
            refine ⟨n.toNat, k.toNat, _, Mc.nats l, ?_, hs, ?_, fun H' p hp => ?_⟩
            · show [L2.V.int n, L2.V.int k, _] = [L2.V.int ((n.toNat : Nat) : Int), L2.V.int ((k.toNat : Nat) : Int), _]
              rw [Int.toNat_of_nonneg hn, Int.toNat_of_nonneg hk]
            · unfold Mc.nats
              rw [List.length_map]
              exact hlen
            · rw [← Mc.rounds_due] at hp
              exact .lst hp (L2.dw_ints _)
#print axioms PySem.Challenge.cw_mapcounts_s03_rounds_holds
