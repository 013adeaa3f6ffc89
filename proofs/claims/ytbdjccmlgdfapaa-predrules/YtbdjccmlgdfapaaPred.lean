/-
  Plain facts on predicates: judged, reckoned, asked of rows, made normal. No program here.
-/
import Derived.Test.YtbdjccmlgdfapaaPtree
namespace Go.Proofs.Ytbdjccmlgdfapaa
set_option linter.unusedVariables false
set_option linter.unusedSimpArgs false
namespace Pd
def hk (k : Int) : Hd := ⟨k, [], 0, 0, [], []⟩
def zero : Pr := Pr.mk' (hk 0) []
/-- Is a part what its kind asks, so many Kids beneath it? -/
def part (h : Hd) (n : Nat) : Bool :=
  if h.k = 1 ∨ h.k = 2 then decide (h.col = [] ∧ h.n = 0 ∧ h.m = 0 ∧ h.s = [] ∧ h.set = [])
  else if h.k = 3 then decide (h.col = [] ∧ h.n = 0 ∧ h.m = 0 ∧ h.s = [] ∧ h.set = [] ∧ n = 1)
  else if h.k = 4 ∨ h.k = 5 then Rw.name h.col && decide (h.m = 0 ∧ h.s = [] ∧ h.set = [] ∧ n = 0)
  else if h.k = 6 ∨ h.k = 8 then Rw.name h.col && decide (h.n = 0 ∧ h.m = 0 ∧ h.s.length ≤ 40 ∧ h.set = [] ∧ n = 0)
  else if h.k = 7 then Rw.name h.col && decide (h.n = 0 ∧ h.m = 0 ∧ h.s = [] ∧ n = 0 ∧ h.set.length ≤ 8) && T.adj h.set && h.set.all (fun s => decide (s.length ≤ 40))
  else if h.k = 9 then Rw.name h.col && decide (h.n = 0 ∧ h.m = 0 ∧ h.s = [] ∧ h.set = [] ∧ n = 0)
  else if h.k = 10 then decide (h.col = [] ∧ h.s = [] ∧ h.set = [] ∧ n = 0)
  else false
def size : Pr → Nat := rec' fun _ _ a => 1 + a.sum
def deep : Pr → Nat := rec' fun _ _ a => a.foldr max 0 + 1
def form : Pr → Bool := rec' fun h l a => part h l.length && a.all id
def right (p : Pr) : Bool := decide (deep p ≤ 6) && decide (size p ≤ 40) && form p
def own (h : Hd) : List (List UInt8) := if h.col = [] then [] else [h.col]
def cols : Pr → List (List UInt8) := rec' fun h _ a => T.bld (own h ++ a.flatten)
def leaf (r : Rw) (h : Hd) : Bool :=
  if h.k = 4 then decide ((Rw.cell r.c h.col).k = 1 ∧ (Rw.cell r.c h.col).n < h.n)
  else if h.k = 5 then decide ((Rw.cell r.c h.col).k = 1 ∧ (Rw.cell r.c h.col).n = h.n)
  else if h.k = 6 then decide ((Rw.cell r.c h.col).k = 2 ∧ (Rw.cell r.c h.col).s = h.s)
  else if h.k = 7 then decide ((Rw.cell r.c h.col).k = 2 ∧ (Rw.cell r.c h.col).s ∈ h.set)
  else if h.k = 8 then decide ((Rw.cell r.c h.col).k = 2) && T.begins h.s (Rw.cell r.c h.col).s
  else if h.k = 9 then decide ((Rw.cell r.c h.col).k = 0)
  else if h.k = 10 then decide (h.n ≤ r.t ∧ r.t ≤ h.m)
  else false
def notB : List Bool → Bool
  | [] => false
  | b :: _ => !b
def ev (r : Rw) : Pr → Bool := rec' fun h _ a => if h.k = 1 then a.all id else if h.k = 2 then a.any id else if h.k = 3 then notB a else leaf r h
theorem size_mk (h : Hd) (l : List Pr) : size (Pr.mk' h l) = 1 + (l.map size).sum := rec_mk _ h l
theorem deep_mk (h : Hd) (l : List Pr) : deep (Pr.mk' h l) = (l.map deep).foldr max 0 + 1 := rec_mk _ h l
theorem form_mk (h : Hd) (l : List Pr) : form (Pr.mk' h l) = (part h l.length && l.all form) := by
  rw [form, rec_mk]; simp [List.all_map]
theorem cols_mk (h : Hd) (l : List Pr) : cols (Pr.mk' h l) = T.bld (own h ++ (l.map cols).flatten) := rec_mk _ h l
theorem ev_mk (r : Rw) (h : Hd) (l : List Pr) : ev r (Pr.mk' h l) = if h.k = 1 then l.all (ev r) else if h.k = 2 then l.any (ev r) else if h.k = 3 then notB (l.map (ev r)) else leaf r h := by
  rw [ev, rec_mk]; simp [List.all_map, List.any_map]
/-- Normal. -/
def put (k : Int) (p : Pr) : List Pr := if p.h.k = k then p.ks else [p]
def one (k : Int) (l : List Pr) : Pr := if l.length = 1 then l.headD zero else Pr.mk' (hk k) l
def fst (a : List (Bool → Pr)) (b : Bool) : Pr := a.headD (fun _ => zero) b
def turn (k : Int) (b : Bool) : Int := if b = true then 3 - k else k
def nrm : Pr → Bool → Pr := rec' fun h l a b =>
  if h.k = 3 then fst a (!b)
  else if h.k = 1 ∨ h.k = 2 then one (turn h.k b) (a.flatMap fun x => put (turn h.k b) (x b))
  else if b = true then Pr.mk' (hk 3) [Pr.mk' h l] else Pr.mk' h l
def normal (p : Pr) : Pr := if right p = true then nrm p false else p
theorem nrm_mk (h : Hd) (l : List Pr) (b : Bool) : nrm (Pr.mk' h l) b = if h.k = 3 then fst (l.map nrm) (!b) else if h.k = 1 ∨ h.k = 2 then one (turn h.k b) (l.flatMap fun x => put (turn h.k b) (nrm x b)) else if b = true then Pr.mk' (hk 3) [Pr.mk' h l] else Pr.mk' h l := by
  rw [nrm, rec_mk]
  simp only [List.flatMap_map]
theorem part_kind {h : Hd} {n : Nat} (e : part h n = true) : 1 ≤ h.k ∧ h.k ≤ 10 := by
  unfold part at e
  split at e
  · omega
  split at e
  · omega
  split at e
  · omega
  split at e
  · omega
  split at e
  · omega
  split at e
  · omega
  split at e
  · omega
  cases e
theorem part_all {h : Hd} {n : Nat} (hk' : h.k = 1 ∨ h.k = 2) (e : part h n = true) : h = hk h.k := by
  unfold part at e
  rw [if_pos hk'] at e
  have e := of_decide_eq_true e
  obtain ⟨k, c, x, m, s, t⟩ := h
  simp only at e
  obtain ⟨rfl, rfl, rfl, rfl, rfl⟩ := e
  rfl
theorem part_not {h : Hd} {n : Nat} (hk' : h.k = 3) (e : part h n = true) : h = hk 3 ∧ n = 1 := by
  unfold part at e
  rw [if_neg (by omega), if_pos hk'] at e
  have e := of_decide_eq_true e
  obtain ⟨k, c, x, m, s, t⟩ := h
  simp only at e hk'
  obtain ⟨rfl, rfl, rfl, rfl, rfl, rfl⟩ := e
  subst hk'
  exact ⟨rfl, rfl⟩
theorem one_of {l : List Pr} (h : l.length = 1) : ∃ x, l = [x] := by
  match l, h with
  | [x], _ => exact ⟨x, rfl⟩
/-- As true as its Kids are. -/
def both (k : Int) (l : List Bool) : Bool := if k = 1 then l.all id else l.any id
theorem ev_kids (r : Rw) {p : Pr} (h : p.h.k = 1 ∨ p.h.k = 2) : ev r p = both p.h.k (p.ks.map (ev r)) := by
  rw [← mk_ks p, ev_mk, h_mk, ks_mk]
  unfold both
  rcases h with h | h
  · rw [if_pos h, if_pos h]; simp [List.all_map]
  · rw [if_neg (by omega), if_pos h, if_neg (by omega)]; simp [List.any_map]
theorem both_append (k : Int) (a b : List Bool) : both k (a ++ b) = if k = 1 then both k a && both k b else both k a || both k b := by
  unfold both; split <;> simp
theorem both_one (k : Int) (x : Bool) : both k [x] = x := by unfold both; split <;> simp
theorem ev_put (r : Rw) {k : Int} (hk' : k = 1 ∨ k = 2) (p : Pr) : both k ((put k p).map (ev r)) = ev r p := by
  unfold put
  split
  · rename_i h
    subst h
    rw [ev_kids r hk']
  · rw [List.map_cons, List.map_nil, both_one]
theorem ev_one (r : Rw) {k : Int} (hk' : k = 1 ∨ k = 2) (l : List Pr) : ev r (one k l) = both k (l.map (ev r)) := by
  unfold one
  split
  · rename_i h
    obtain ⟨x, rfl⟩ := one_of h
    rw [List.map_cons, List.map_nil, both_one]
    rfl
  · rw [ev_kids r (by rw [h_mk]; exact hk'), ks_mk, h_mk]
    rfl
theorem ev_puts (r : Rw) {k : Int} (hk' : k = 1 ∨ k = 2) (l : List Pr) : both k ((l.flatMap (put k)).map (ev r)) = both k (l.map (ev r)) := by
  induction l with
  | nil => rfl
  | cons x t ih =>
    rw [List.flatMap_cons, List.map_append, both_append, ev_put r hk', ih, List.map_cons, show ev r x :: t.map (ev r) = [ev r x] ++ t.map (ev r) from rfl, both_append, both_one]
theorem both_turn {k : Int} (hk' : k = 1 ∨ k = 2) (b : Bool) (l : List Bool) : both (turn k b) (l.map fun x => x != b) = (both k l != b) := by
  unfold turn both
  cases b with
  | false => simp
  | true =>
    rcases hk' with rfl | rfl
    · simp only [if_true]
      rw [if_neg (by decide)]
      induction l with
      | nil => rfl
      | cons x t ih => cases x <;> simp_all
    · simp only [if_true]
      rw [if_pos (by decide), if_neg (by decide)]
      induction l with
      | nil => rfl
      | cons x t ih => cases x <;> simp_all
/-- P13.5: a normal one is as true as the one that it is of. -/
theorem ev_nrm (r : Rw) : ∀ p, form p = true → ∀ b, ev r (nrm p b) = (ev r p != b) := by
  refine tree ?_
  intro h l ih hf b
  rw [form_mk, Bool.and_eq_true, List.all_eq_true] at hf
  obtain ⟨hp, hl⟩ := hf
  rw [nrm_mk]
  split
  · rename_i h3
    obtain ⟨_, h1⟩ := part_not h3 hp
    obtain ⟨x, rfl⟩ := one_of h1
    rw [ev_mk, if_neg (by omega), if_neg (by omega), if_pos h3]
    show ev r (nrm x (!b)) = _
    rw [ih x (by simp) (hl x (by simp))]
    simp only [List.map_cons, List.map_nil, notB]
    cases ev r x <;> cases b <;> rfl
  rename_i h3
  split
  · rename_i h12
    have ht : turn h.k b = 1 ∨ turn h.k b = 2 := by unfold turn; split <;> omega
    rw [ev_one r ht, show (l.flatMap fun x => put (turn h.k b) (nrm x b)) = (l.map fun x => nrm x b).flatMap (put (turn h.k b)) from by rw [List.flatMap_map], ev_puts r ht, List.map_map, ev_kids r (p := Pr.mk' h l) (by rw [h_mk]; exact h12), h_mk, ks_mk, ← both_turn h12, List.map_map]
    congr 1
    refine List.map_congr_left fun x hx => ?_
    exact ih x hx (hl x hx) b
  · rename_i h12
    split
    · rename_i hb
      subst hb
      rw [ev_mk]
      rw [show (hk 3).k = 3 from rfl, if_neg (by decide), if_neg (by decide), if_pos rfl]
      simp [notB]
    · rename_i hb
      have : b = false := by cases b <;> simp_all
      subst this
      simp
/-- Is it normal, beneath a part of a kind? -/
def nots (l : List Pr) : Bool :=
  match l with
  | [x] => decide (3 < x.h.k)
  | _ => false
def flat : Pr → Int → Bool := rec' fun h l a u => if h.k = 3 then nots l else if h.k = 1 ∨ h.k = 2 then decide (h.k ≠ u) && decide (l.length ≠ 1) && a.all (fun x => x h.k) else true
theorem flat_mk (h : Hd) (l : List Pr) (u : Int) : flat (Pr.mk' h l) u = if h.k = 3 then nots l else if h.k = 1 ∨ h.k = 2 then decide (h.k ≠ u) && decide (l.length ≠ 1) && l.all (fun x => flat x h.k) else true := by
  rw [flat, rec_mk]
  simp only [List.all_map]
  rfl
/-- What is beneath a part of another kind. -/
theorem flat_up {p : Pr} {u v : Int} (h : flat p u = true) (hv : p.h.k ≠ v) : flat p v = true := by
  rw [← mk_ks p, flat_mk] at h ⊢
  split at h
  · rename_i h3; rw [if_pos h3]; exact h
  rename_i h3
  rw [if_neg h3]
  split at h
  · rename_i h12
    rw [if_pos h12]
    simp only [Bool.and_eq_true] at h ⊢
    exact ⟨⟨decide_eq_true hv, h.1.2⟩, h.2⟩
  · rename_i h12; rw [if_neg h12]
theorem flat_ne {p : Pr} {u : Int} (hu : u = 1 ∨ u = 2) (h : flat p u = true) : p.h.k ≠ u := by
  intro e
  rw [← mk_ks p, flat_mk, if_neg (by omega), if_pos (by omega)] at h
  simp [e] at h
theorem flat_puts {k : Int} (hk' : k = 1 ∨ k = 2) {l : List Pr} (h : ∀ x ∈ l, flat x 0 = true) : ∀ y ∈ l.flatMap (put k), flat y k = true := by
  intro y hy
  obtain ⟨x, hx, hz⟩ := List.mem_flatMap.1 hy
  clear hy
  have hf := h x hx
  unfold put at hz
  split at hz
  · rename_i e
    subst e
    rw [← mk_ks x, flat_mk, if_neg (by omega), if_pos hk'] at hf
    simp only [Bool.and_eq_true, List.all_eq_true] at hf
    exact hf.2 y hz
  · rename_i e
    have : y = x := by simpa using hz
    subst this
    exact flat_up hf e
theorem flat_one {k : Int} (hk' : k = 1 ∨ k = 2) {l : List Pr} (h : ∀ x ∈ l, flat x k = true) : flat (one k l) 0 = true := by
  unfold one
  split
  · rename_i h1
    obtain ⟨x, rfl⟩ := one_of h1
    have hx := h x (by simp)
    by_cases h0 : x.h.k = 0
    · show flat x 0 = true
      rw [← mk_ks x, flat_mk, if_neg (by omega), if_neg (by omega)]
    · exact flat_up hx h0
  · rename_i h1
    rw [flat_mk, show (hk k).k = k from rfl, if_neg (by omega), if_pos hk']
    simp only [Bool.and_eq_true, List.all_eq_true]
    exact ⟨⟨decide_eq_true (by omega), decide_eq_true h1⟩, h⟩
theorem flat_nrm : ∀ p, form p = true → ∀ b, flat (nrm p b) 0 = true := by
  refine tree ?_
  intro h l ih hf b
  rw [form_mk, Bool.and_eq_true, List.all_eq_true] at hf
  obtain ⟨hp, hl⟩ := hf
  have hkk := part_kind hp
  rw [nrm_mk]
  split
  · rename_i h3
    obtain ⟨_, h1⟩ := part_not h3 hp
    obtain ⟨x, rfl⟩ := one_of h1
    exact ih x (by simp) (hl x (by simp)) _
  rename_i h3
  split
  · rename_i h12
    have ht : turn h.k b = 1 ∨ turn h.k b = 2 := by unfold turn; split <;> omega
    refine flat_one ht ?_
    rw [show (l.flatMap fun x => put (turn h.k b) (nrm x b)) = (l.map fun x => nrm x b).flatMap (put (turn h.k b)) from by rw [List.flatMap_map]]
    refine flat_puts ht ?_
    intro x hx
    obtain ⟨y, hy, rfl⟩ := List.mem_map.1 hx
    exact ih y hy (hl y hy) b
  · rename_i h12
    split
    · rw [flat_mk, show (hk 3).k = 3 from rfl, if_pos rfl]
      simp only [nots, h_mk]
      exact decide_eq_true (by omega)
    · rw [flat_mk, if_neg h3, if_neg h12]
/-- A normal one is normal itself. -/
theorem nrm_flat : ∀ p, form p = true → ∀ u, flat p u = true → nrm p false = p := by
  refine tree ?_
  intro h l ih hf u hu
  rw [form_mk, Bool.and_eq_true, List.all_eq_true] at hf
  obtain ⟨hp, hl⟩ := hf
  rw [flat_mk] at hu
  rw [nrm_mk]
  split
  · rename_i h3
    obtain ⟨he, h1⟩ := part_not h3 hp
    obtain ⟨x, rfl⟩ := one_of h1
    rw [if_pos h3] at hu
    have hx : 3 < x.h.k := by simpa [nots] using hu
    show nrm x true = _
    rw [← mk_ks x, nrm_mk, if_neg (by omega), if_neg (by omega), if_pos rfl, he]
  rename_i h3
  rw [if_neg h3] at hu
  split
  · rename_i h12
    rw [if_pos h12] at hu
    simp only [Bool.and_eq_true, List.all_eq_true] at hu
    obtain ⟨⟨_, h1⟩, hk2⟩ := hu
    have e : (l.flatMap fun x => put (turn h.k false) (nrm x false)) = l := by
      have : ∀ x ∈ l, put (turn h.k false) (nrm x false) = [x] := by
        intro x hx
        rw [ih x hx (hl x hx) h.k (hk2 x hx)]
        unfold put
        rw [show turn h.k false = h.k from rfl, if_neg (flat_ne h12 (hk2 x hx))]
      clear hk2 hl ih h1 hp
      induction l with
      | nil => rfl
      | cons x t iht => rw [List.flatMap_cons, this x (by simp), iht fun y hy => this y (by simp [hy])]; rfl
    rw [e]
    unfold one
    rw [if_neg (of_decide_eq_true h1), show turn h.k false = h.k from rfl, ← part_all h12 hp]
  · rename_i h12
    rfl
theorem nrm_again {p : Pr} (h : form (normal p) = true) (hp : right p = true) : normal (normal p) = normal p := by
  have hf : form p = true := by unfold right at hp; simp only [Bool.and_eq_true] at hp; exact hp.2
  have e : normal p = nrm p false := by rw [normal, if_pos hp]
  rw [normal]
  split
  · exact nrm_flat _ h 0 (by rw [e]; exact flat_nrm p hf false)
  · rfl
end Pd
end Go.Proofs.Ytbdjccmlgdfapaa
