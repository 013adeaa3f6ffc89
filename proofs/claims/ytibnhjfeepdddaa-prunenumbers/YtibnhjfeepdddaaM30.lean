/-
  Plain: a predicate is judged as its normal one is; Not exchanges Never and Always, All takes the least, Any the greatest; of one row all is decided but by Prefix and In. No program here.
-/
import Derived.Test.YtibnhjfeepdddaaM29
namespace Go.Proofs.Ytibnhjfeepdddaa
namespace Pu
theorem lo_one {x : Nat} (h : x ≤ 3) : lo [x] = x := by
 have := lo_all [x]
 have h1 := this.2.2 x (by simp)
 rcases this.1 with e | e
 ·omega
 ·simpa using e
theorem hi_one {x : Nat} (h : 1 ≤ x) : hi [x] = x := by
 have := hi_all [x]
 have h1 := this.2.2 x (by simp)
 rcases this.1 with e | e
 ·omega
 ·simpa using e
theorem lo_dual {l : List Nat} (h : ∀ x ∈ l, 1 ≤ x ∧ x ≤ 3) : lo (l.map fun x => 4 - x) = 4 - hi l := by
 have ha := lo_all (l.map fun x => 4 - x)
 have hb := hi_all l
 have h3 : hi l ≤ 3 := by
  rcases hb.1 with e | e
  ·omega
  ·exact (h _ e).2
 have h1 : lo (l.map fun x => 4 - x) ≤ 4 - hi l := by
  rcases hb.1 with e | e
  ·omega
  ·exact ha.2.2 _ (List.mem_map.2 ⟨_, e, rfl⟩)
 rcases ha.1 with e | e
 ·omega
 ·obtain ⟨x, hx, e2⟩ := List.mem_map.1 e
  have := hb.2.2 x hx
  omega
theorem hi_dual {l : List Nat} (h : ∀ x ∈ l, 1 ≤ x ∧ x ≤ 3) : hi (l.map fun x => 4 - x) = 4 - lo l := by
 have ha := hi_all (l.map fun x => 4 - x)
 have hb := lo_all l
 have h3 : 1 ≤ lo l := by
  rcases hb.1 with e | e
  ·omega
  ·exact (h _ e).1
 have h1 : 4 - lo l ≤ hi (l.map fun x => 4 - x) := by
  rcases hb.1 with e | e
  ·omega
  ·exact ha.2.2 _ (List.mem_map.2 ⟨_, e, rfl⟩)
 rcases ha.1 with e | e
 ·omega
 ·obtain ⟨x, hx, e2⟩ := List.mem_map.1 e
  have := hb.2.2 x hx
  have h4 := (h x hx).2
  omega
theorem jd_range (s : St) (f : Fg) : ∀ p, Pd.form p = true → 1 ≤ jd s f p ∧ jd s f p ≤ 3 := by
 refine Pd.tree ?_
 intro h l ih hf
 rw [Pd.form_mk, Bool.and_eq_true, List.all_eq_true] at hf
 obtain ⟨hp, hl⟩ := hf
 have ih' : ∀ k ∈ l, 1 ≤ jd s f k ∧ jd s f k ≤ 3 := fun k hk => ih k hk (hl k hk)
 rw [jd_mk]
 split
 ·have ha := lo_all (l.map (jd s f))
  refine ⟨?_, ha.2.1⟩
  rcases ha.1 with e | e
  ·omega
  ·obtain ⟨k, hk, e2⟩ := List.mem_map.1 e
   have := ih' k hk
   omega
 split
 ·have ha := hi_all (l.map (jd s f))
  refine ⟨ha.2.1, ?_⟩
  rcases ha.1 with e | e
  ·omega
  ·obtain ⟨k, hk, e2⟩ := List.mem_map.1 e
   have := ih' k hk
   omega
 split
 ·rename_i h3
  obtain ⟨_, hn⟩ := Pd.part_not h3 hp
  obtain ⟨k, rfl⟩ := Pd.one_of hn
  have := ih' k (by simp)
  simp only [List.map_cons, List.map_nil, List.headD_cons]
  omega
 ·exact leafJ_range s f h
def both (k : Int) (l : List Nat) : Nat := if k = 1 then lo l else hi l
theorem jd_one (s : St) (f : Fg) {k : Int} (hk : k = 1 ∨ k = 2) {l : List Pr} (hl : ∀ x ∈ l, 1 ≤ jd s f x ∧ jd s f x ≤ 3) : jd s f (Pd.one k l) = both k (l.map (jd s f)) := by
 unfold Pd.one
 split
 ·rename_i h1
  obtain ⟨x, rfl⟩ := Pd.one_of h1
  have := hl x (by simp)
  unfold both
  simp only [List.headD_cons, List.map_cons, List.map_nil]
  rw [lo_one this.2, hi_one this.1]
  split <;> rfl
 ·rw [jd_mk]
  unfold both
  rcases hk with rfl | rfl
  ·rfl
  ·rfl
theorem jd_put (s : St) (f : Fg) {k : Int} (hk : k = 1 ∨ k = 2) {p : Pr} (hp : 1 ≤ jd s f p ∧ jd s f p ≤ 3) : both k ((Pd.put k p).map (jd s f)) = jd s f p := by
 unfold Pd.put
 split
 ·rename_i e
  have h1 : jd s f p = jd s f (Pr.mk' p.h p.ks) := by rw [Pd.mk_ks]
  rw [h1, jd_mk, e]
  unfold both
  rcases hk with rfl | rfl
  ·rfl
  ·rfl
 ·unfold both
  simp only [List.map_cons, List.map_nil]
  rw [lo_one hp.2, hi_one hp.1]
  split <;> rfl
theorem lo_ge {l m : List Nat} (h : ∀ x ∈ m, lo l ≤ x) : lo l ≤ lo m := by
 rcases (lo_all m).1 with e | e
 ·have := (lo_all l).2.1; omega
 ·exact h _ e
theorem hi_ge {l m : List Nat} (h : ∀ x ∈ l, x ≤ hi m) : hi l ≤ hi m := by
 rcases (hi_all l).1 with e | e
 ·have := (hi_all m).2.1; omega
 ·exact h _ e
theorem both_puts (s : St) (f : Fg) {k : Int} (hk : k = 1 ∨ k = 2) {l : List Pr} (hl : ∀ x ∈ l, 1 ≤ jd s f x ∧ jd s f x ≤ 3) : both k ((l.flatMap (Pd.put k)).map (jd s f)) = both k (l.map (jd s f)) := by
 have hput : ∀ x ∈ l, both k ((Pd.put k x).map (jd s f)) = jd s f x := fun x hx => jd_put s f hk (hl x hx)
 unfold both at hput ⊢
 rcases hk with rfl | rfl
 ·simp only [if_true] at hput ⊢
  have hc := lo_all ((l.flatMap (Pd.put 1)).map (jd s f))
  apply Nat.le_antisymm
  ·refine lo_ge fun y hy => ?_
   obtain ⟨x, hx, rfl⟩ := List.mem_map.1 hy
   rw [← hput x hx]
   rcases (lo_all ((Pd.put 1 x).map (jd s f))).1 with e | e
   ·omega
   ·obtain ⟨z, hz, e2⟩ := List.mem_map.1 e
    have := hc.2.2 _ (List.mem_map.2 ⟨z, List.mem_flatMap.2 ⟨x, hx, hz⟩, rfl⟩)
    omega
  ·refine lo_ge fun y hy => ?_
   obtain ⟨z, hz, rfl⟩ := List.mem_map.1 hy
   obtain ⟨x, hx, hzx⟩ := List.mem_flatMap.1 hz
   have h1 := (lo_all ((Pd.put 1 x).map (jd s f))).2.2 _ (List.mem_map.2 ⟨z, hzx, rfl⟩)
   rw [hput x hx] at h1
   have h2 := (lo_all (l.map (jd s f))).2.2 _ (List.mem_map.2 ⟨x, hx, rfl⟩)
   omega
 ·rw [if_neg (by decide)] at *
  simp only [if_neg (show ¬ ((2 : Int) = 1) by decide)] at hput ⊢
  have hc := hi_all ((l.flatMap (Pd.put 2)).map (jd s f))
  apply Nat.le_antisymm
  ·refine hi_ge fun y hy => ?_
   obtain ⟨z, hz, rfl⟩ := List.mem_map.1 hy
   obtain ⟨x, hx, hzx⟩ := List.mem_flatMap.1 hz
   have h1 := (hi_all ((Pd.put 2 x).map (jd s f))).2.2 _ (List.mem_map.2 ⟨z, hzx, rfl⟩)
   rw [hput x hx] at h1
   have h2 := (hi_all (l.map (jd s f))).2.2 _ (List.mem_map.2 ⟨x, hx, rfl⟩)
   omega
  ·refine hi_ge fun y hy => ?_
   obtain ⟨x, hx, rfl⟩ := List.mem_map.1 hy
   rw [← hput x hx]
   rcases (hi_all ((Pd.put 2 x).map (jd s f))).1 with e | e
   ·omega
   ·obtain ⟨z, hz, e2⟩ := List.mem_map.1 e
    have := hc.2.2 _ (List.mem_map.2 ⟨z, List.mem_flatMap.2 ⟨x, hx, hz⟩, rfl⟩)
    omega
/-- A predicate is judged as its normal one is; about a Not Never and Always are exchanged. -/
theorem jd_nrm (s : St) (f : Fg) : ∀ p, Pd.form p = true → ∀ b, jd s f (Pd.nrm p b) = if b = true then 4 - jd s f p else jd s f p := by
 refine Pd.tree ?_
 intro h l ih hf0 b
 have hf := hf0
 rw [Pd.form_mk, Bool.and_eq_true, List.all_eq_true] at hf
 obtain ⟨hp, hl⟩ := hf
 have hkk := Pd.part_kind hp
 have hr : ∀ x ∈ l, 1 ≤ jd s f x ∧ jd s f x ≤ 3 := fun x hx => jd_range s f x (hl x hx)
 rw [Pd.nrm_mk]
 by_cases h3 : h.k = 3
 ·rw [if_pos h3]
  obtain ⟨_, h1⟩ := Pd.part_not h3 hp
  obtain ⟨x, rfl⟩ := Pd.one_of h1
  have hx := hr x (by simp)
  have e : jd s f (Pr.mk' h [x]) = 4 - jd s f x := by rw [jd_mk, if_neg (by omega), if_neg (by omega), if_pos h3]; rfl
  rw [e]
  have := ih x (by simp) (hl x (by simp)) (!b)
  simp only [Pd.fst, List.map_cons, List.headD_cons]
  rw [this]
  cases b
  ·simp
  ·simp; omega
 rw [if_neg h3]
 by_cases h12 : h.k = 1 ∨ h.k = 2
 ·rw [if_pos h12]
  have ht : Pd.turn h.k b = 1 ∨ Pd.turn h.k b = 2 := by unfold Pd.turn; split <;> omega
  have hn : ∀ y ∈ l.map (fun x => Pd.nrm x b), 1 ≤ jd s f y ∧ jd s f y ≤ 3 := by
   intro y hy
   obtain ⟨x, hx, rfl⟩ := List.mem_map.1 hy
   exact jd_range s f _ (Pd.form_nrm x (hl x hx) b)
  have e1 : (l.flatMap fun x => Pd.put (Pd.turn h.k b) (Pd.nrm x b)) = (l.map fun x => Pd.nrm x b).flatMap (Pd.put (Pd.turn h.k b)) := by rw [List.flatMap_map]
  have hall : ∀ y ∈ (l.map fun x => Pd.nrm x b).flatMap (Pd.put (Pd.turn h.k b)), 1 ≤ jd s f y ∧ jd s f y ≤ 3 := by
   intro y hy
   obtain ⟨z, hz, hyz⟩ := List.mem_flatMap.1 hy
   obtain ⟨x, hx, rfl⟩ := List.mem_map.1 hz
   have hfx := Pd.form_nrm x (hl x hx) b
   unfold Pd.put at hyz
   split at hyz
   ·rw [← Pd.mk_ks (Pd.nrm x b), Pd.form_mk, Bool.and_eq_true, List.all_eq_true] at hfx
    exact jd_range s f y (hfx.2 y hyz)
   ·have : y = Pd.nrm x b := by simpa using hyz
    rw [this]; exact jd_range s f _ hfx
  rw [e1, jd_one s f ht hall, both_puts s f ht hn, List.map_map]
  have e2 : l.map (jd s f ∘ fun x => Pd.nrm x b) = l.map fun x => if b = true then 4 - jd s f x else jd s f x := List.map_congr_left fun x hx => ih x hx (hl x hx) b
  rw [e2]
  have e3 : jd s f (Pr.mk' h l) = both h.k (l.map (jd s f)) := by
   rw [jd_mk]
   unfold both
   rcases h12 with e | e
   ·rw [if_pos e, if_pos e]
   ·rw [if_neg (by omega), if_pos e, if_neg (by omega)]
  rw [e3]
  have hm : ∀ x ∈ l.map (jd s f), 1 ≤ x ∧ x ≤ 3 := by
   intro x hx
   obtain ⟨y, hy, rfl⟩ := List.mem_map.1 hx
   exact hr y hy
  cases b with
  | false => simp [Pd.turn]
  | true =>
   simp only [if_true]
   have e4 : (l.map fun x => 4 - jd s f x) = (l.map (jd s f)).map fun x => 4 - x := by rw [List.map_map]; rfl
   rw [e4]
   unfold both Pd.turn
   simp only [if_true]
   rcases h12 with e | e
   ·rw [e]
    have hd := hi_dual hm
    rw [List.map_map] at hd
    simp
    exact hd
   ·rw [e]
    have hd := lo_dual hm
    rw [List.map_map] at hd
    simp
    exact hd
 ·rw [if_neg h12]
  cases b with
  | false => simp
  | true =>
   simp only [if_true]
   rw [jd_mk]
   rfl
theorem right_form {p : Pr} (h : Pd.right p = true) : Pd.form p = true := by unfold Pd.right at h; simp only [Bool.and_eq_true] at h; exact h.2
theorem judge_is {s : St} (hr0 : s.rows ≠ 0) (f : Fg) {p : Pr} (hp : Pd.right p = true) : judge s f p = jd s f p := by
 unfold judge
 rw [if_pos hp, if_neg hr0, jd_nrm s f p (right_form hp) false]
 rfl
end Pu
end Go.Proofs.Ytibnhjfeepdddaa
