/-
  Ytaehchaimlklnaa facts on times that rise, on each fourth of them, and on spans of places. No program here.
-/
namespace Go.Proofs.Ytaehchaimlklnaa.Tk

/-- The element at a place, 0 where there is none. -/
abbrev at0 (l : List Int) (i : Nat) : Int := l.getD i 0
theorem at0_eq {l : List Int} {i : Nat} (h : i < l.length) : at0 l i = l[i] := by
  rw [at0, List.getD_eq_getElem?_getD, List.getElem?_eq_getElem h]; rfl
/-- Each is no less than the one ahead. -/
abbrev Rise (l : List Int) : Prop := ∀ j, j < l.length - 1 → at0 l j ≤ at0 l (j + 1)
theorem Rise.le {l : List Int} (h : Rise l) : ∀ {i j : Nat}, i ≤ j → j < l.length → at0 l i ≤ at0 l j := by
  intro i j
  induction j with
  | zero => intro h1 _; have : i = 0 := by omega
            subst this; exact Int.le_refl _
  | succ j ih =>
    intro h1 h2
    by_cases e : i = j + 1
    · subst e; exact Int.le_refl _
    · exact Int.le_trans (ih (by omega) (by omega)) (h j (by omega))
theorem at0_take {l : List Int} {i k : Nat} (h : k < i) : at0 (l.take i) k = at0 l k := by
  simp only [at0, List.getD_eq_getElem?_getD, List.getElem?_take, h, if_true]
theorem rise_take {l : List Int} (h : Rise l) (i : Nat) : Rise (l.take i) := fun j hj => by
  rw [List.length_take] at hj
  rw [at0_take (by omega), at0_take (by omega)]
  exact h j (by omega)
theorem rise_next {l : List Int} {i : Nat} (hi : i < l.length) : Rise (l.take (i + 1)) ↔ Rise (l.take i) ∧ (0 < i → at0 l (i - 1) ≤ at0 l i) := by
  constructor
  · intro h
    refine ⟨fun j hj => ?_, fun h0 => ?_⟩
    · rw [List.length_take] at hj
      have := h j (by rw [List.length_take]; omega)
      rw [at0_take (by omega), at0_take (by omega)] at this ⊢
      exact this
    · have := h (i - 1) (by rw [List.length_take]; omega)
      rw [at0_take (by omega), at0_take (by omega), show i - 1 + 1 = i from by omega] at this
      exact this
  · rintro ⟨h1, h2⟩ j hj
    rw [List.length_take] at hj
    rw [at0_take (by omega), at0_take (by omega)]
    by_cases e : j + 1 < i
    · have := h1 j (by rw [List.length_take]; omega)
      rw [at0_take (by omega), at0_take (by omega)] at this
      exact this
    · have e' : j + 1 = i := by omega
      have := h2 (by omega)
      rw [← e'] at this
      simpa using this
/-- Each fourth, from the first on. -/
def evs (l : List Int) : List Int := (List.range ((l.length + 3) / 4)).map fun i => at0 l (4 * i)
theorem evs_len (l : List Int) : (evs l).length = (l.length + 3) / 4 := by simp [evs]
theorem evs_at {l : List Int} {i : Nat} (h : i < (l.length + 3) / 4) : at0 (evs l) i = at0 l (4 * i) := by
  rw [at0_eq (by rw [evs_len]; exact h)]
  simp [evs]
theorem evs_next {l : List Int} {i : Nat} (hi : i < l.length) : evs (l.take (i + 1)) = if i % 4 = 0 then evs (l.take i) ++ [at0 l i] else evs (l.take i) := by
  have h1 : (l.take (i + 1)).length = i + 1 := by simp; omega
  have h0 : (l.take i).length = i := by simp; omega
  by_cases e : i % 4 = 0
  · rw [if_pos e]
    unfold evs
    rw [h1, h0, show (i + 1 + 3) / 4 = (i + 3) / 4 + 1 from by omega, List.range_succ, List.map_append, List.map_singleton]
    congr 1
    · refine List.map_congr_left fun k hk => ?_
      have := List.mem_range.1 hk
      rw [at0_take (by omega), at0_take (by omega)]
    · rw [at0_take (by omega), show 4 * ((i + 3) / 4) = i from by omega]
  · rw [if_neg e]
    unfold evs
    rw [h1, h0, show (i + 1 + 3) / 4 = (i + 3) / 4 from by omega]
    refine List.map_congr_left fun k hk => ?_
    have := List.mem_range.1 hk
    rw [at0_take (by omega), at0_take (by omega)]
theorem evs_rise {l : List Int} (h : Rise l) : Rise (evs l) := fun j hj => by
  rw [evs_len] at hj
  rw [evs_at (by omega), evs_at (by omega)]
  exact h.le (by omega) (by omega)
/-- The last, 0 of none. -/
def lst (l : List Int) : Int := at0 l (l.length - 1)
theorem lst_nil : lst [] = 0 := rfl
theorem lst_next {l : List Int} {i : Nat} (hi : i < l.length) : lst (l.take (i + 1)) = at0 l i := by
  unfold lst
  have h1 : (l.take (i + 1)).length = i + 1 := by simp; omega
  rw [h1, at0_take (by omega)]; rfl

/-- An index: how many rows, the last time, each fourth. -/
structure Ix where
  r : Int
  m : Int
  a : List Int
def zero : Ix := ⟨0, 0, []⟩
def ix (l : List Int) : Ix := ⟨l.length, lst l, evs l⟩
def build (l : List Int) : Ix × Nat := if l.length ≤ 1048576 ∧ Rise l then (ix l, 0) else (zero, 12)
def right (x : Ix) : Bool :=
  decide (0 ≤ x.r ∧ x.r ≤ 1048576 ∧ (x.a.length : Int) = (x.r + 3) / 4) && (if x.r = 0 then decide (x.m = 0) else decide (Rise x.a) && decide (lst x.a ≤ x.m) && (decide (x.r % 4 ≠ 1) || decide (lst x.a = x.m)))
theorem right_ix {l : List Int} (hl : l.length ≤ 1048576) (h : Rise l) : right (ix l) = true := by
  unfold right ix
  simp only
  have hle := evs_len l
  by_cases e : l.length = 0
  · have : l = [] := List.eq_nil_of_length_eq_zero e
    subst this
    rfl
  · have h4 : (evs l).length - 1 < (l.length + 3) / 4 := by omega
    have hlst : lst (evs l) = at0 l (4 * ((l.length + 3) / 4 - 1)) := by
      unfold lst; rw [evs_at h4, hle]
    have hc : lst (evs l) ≤ lst l := by rw [hlst]; exact h.le (by omega) (by omega)
    have hz : ¬ ((l.length : Int) = 0) := by omega
    rw [if_neg hz]
    have d1 : decide (0 ≤ (l.length : Int) ∧ (l.length : Int) ≤ 1048576 ∧ ((evs l).length : Int) = ((l.length : Int) + 3) / 4) = true := by
      rw [decide_eq_true_eq, hle]; omega
    have d2 : decide (Rise (evs l)) = true := decide_eq_true (evs_rise h)
    have d3 : decide (lst (evs l) ≤ lst l) = true := decide_eq_true hc
    rw [d1, d2, d3]
    by_cases e1 : (l.length : Int) % 4 ≠ 1
    · simp [e1]
    · have e2 : lst (evs l) = lst l := by
        rw [hlst]; unfold lst
        rw [show 4 * ((l.length + 3) / 4 - 1) = l.length - 1 from by omega]
      simp [e2]
/-- How many of the first are below. -/
def below (a : List Int) (lo : Int) : Nat := a.countP fun t => decide (t < lo)
/-- The first place that is above, else the end. -/
def above (a : List Int) (hi : Int) : Nat := a.findIdx fun t => decide (hi < t)
def span (x : Ix) (lo hi : Int) : Nat × Nat :=
  if hi < lo ∨ right x = false ∨ x.r = 0 ∨ hi < at0 x.a 0 ∨ x.m < lo then (0, 0)
  else (4 * (below x.a lo - 1), if above x.a hi < x.a.length then 4 * above x.a hi else x.r.toNat)
theorem below_le (a : List Int) (lo : Int) : below a lo ≤ a.length := List.countP_le_length
/-- Of times that rise those below come first. -/
theorem below_lt {a : List Int} (h : Rise a) {lo : Int} : ∀ {i : Nat}, i < below a lo → at0 a i < lo := by
  intro i hi
  refine Classical.byContradiction fun hn => ?_
  have hil : i < a.length := Nat.lt_of_lt_of_le hi (below_le a lo)
  have hz : (a.drop i).countP (fun t => decide (t < lo)) = 0 := by
    rw [List.countP_eq_zero]
    intro t ht
    obtain ⟨k, hk, rfl⟩ := List.getElem_of_mem ht
    rw [List.getElem_drop]
    rw [List.length_drop] at hk
    have := h.le (i := i) (j := i + k) (by omega) (by omega)
    rw [at0_eq (i := i + k) (by omega)] at this
    simp; omega
  have hs : below a lo = (a.take i).countP (fun t => decide (t < lo)) + (a.drop i).countP (fun t => decide (t < lo)) := by
    unfold below
    rw [← List.countP_append, List.take_append_drop]
  have hle : (a.take i).countP (fun t => decide (t < lo)) ≤ i := Nat.le_trans List.countP_le_length (by simp; omega)
  omega
theorem above_gt {a : List Int} {hi : Int} (h : above a hi < a.length) : hi < at0 a (above a hi) := by
  have h' : decide (hi < a[above a hi]) = true := List.findIdx_getElem (p := fun t => decide (hi < t)) (w := h)
  rw [at0_eq h]
  exact of_decide_eq_true h'
theorem above_le_len (a : List Int) (hi : Int) : above a hi ≤ a.length := List.findIdx_le_length
theorem above_not {a : List Int} {hi : Int} {i : Nat} (h : i < above a hi) : at0 a i ≤ hi := by
  have hl := above_le_len a hi
  have := List.not_of_lt_findIdx (p := fun t => decide (hi < t)) h
  rw [at0_eq (by omega)]
  simpa using this
/-- Outside of a span there is no time that was asked for. -/
theorem span_out {l : List Int} (hl : l.length ≤ 1048576) (h : Rise l) (lo hi : Int) :
    (span (ix l) lo hi).1 ≤ (span (ix l) lo hi).2 ∧ (span (ix l) lo hi).2 ≤ l.length ∧ ∀ k, k < l.length → lo ≤ at0 l k → at0 l k ≤ hi → (span (ix l) lo hi).1 ≤ k ∧ k < (span (ix l) lo hi).2 := by
  have hR := right_ix hl h
  have hle := evs_len l
  unfold span
  split
  · rename_i hc
    refine ⟨Nat.le_refl _, Nat.zero_le _, fun k hk h1 h2 => ?_⟩
    exfalso
    have h0 : at0 l 0 ≤ at0 l k := h.le (Nat.zero_le _) hk
    have hlast : at0 l k ≤ lst l := h.le (by omega) (by omega)
    rcases hc with hc | hc | hc | hc | hc
    · omega
    · rw [hR] at hc; cases hc
    · have : ((l.length : Nat) : Int) = 0 := hc
      omega
    · have hc' : hi < at0 (evs l) 0 := hc
      rw [evs_at (by omega), Nat.mul_zero] at hc'
      omega
    · have hc' : lst l < lo := hc
      omega
  · rename_i hc
    have hnr : ¬ ((l.length : Nat) : Int) = 0 := fun e => hc (.inr (.inr (.inl e)))
    have ha0 : at0 (evs l) 0 ≤ hi := by
      have : ¬ hi < at0 (ix l).a 0 := fun e => hc (.inr (.inr (.inr (.inl e))))
      exact Int.not_lt.1 this
    have hlohi : lo ≤ hi := by
      have : ¬ hi < lo := fun e => hc (.inl e)
      omega
    have hb := below_le (evs l) lo
    have hev := evs_rise h
    have hab := above_le_len (evs l) hi
    have hab0 : 0 < above (evs l) hi := by
      refine Nat.pos_of_ne_zero fun e => ?_
      have := above_gt (a := evs l) (hi := hi) (by omega)
      rw [e] at this
      omega
    -- the first above lies behind what is below
    have hba : below (evs l) lo ≤ above (evs l) hi := by
      refine Nat.le_of_not_lt fun hlt => ?_
      have h1 := below_lt hev hlt
      have h2 := above_gt (a := evs l) (hi := hi) (by omega)
      omega
    have hlow : ∀ k, k < l.length → lo ≤ at0 l k → 4 * (below (evs l) lo - 1) ≤ k := by
      intro k hk h1
      refine Nat.le_of_not_lt fun hlt => ?_
      have hbp : 0 < below (evs l) lo := by omega
      have h2 := below_lt hev (i := below (evs l) lo - 1) (lo := lo) (by omega)
      rw [evs_at (by omega)] at h2
      have h3 : at0 l k ≤ at0 l (4 * (below (evs l) lo - 1)) := h.le (by omega) (by omega)
      omega
    show 4 * (below (evs l) lo - 1) ≤ _ ∧ _ ∧ _
    simp only
    show 4 * (below (evs l) lo - 1) ≤ (if above (evs l) hi < (evs l).length then 4 * above (evs l) hi else ((l.length : Nat) : Int).toNat) ∧ (if above (evs l) hi < (evs l).length then 4 * above (evs l) hi else ((l.length : Nat) : Int).toNat) ≤ l.length ∧ ∀ k, k < l.length → lo ≤ at0 l k → at0 l k ≤ hi → 4 * (below (evs l) lo - 1) ≤ k ∧ k < (if above (evs l) hi < (evs l).length then 4 * above (evs l) hi else ((l.length : Nat) : Int).toNat)
    split
    · rename_i hlt
      refine ⟨by omega, by omega, fun k hk h1 h2 => ⟨hlow k hk h1, ?_⟩⟩
      refine Nat.lt_of_not_le fun hge => ?_
      have h3 := above_gt hlt
      rw [evs_at (by omega)] at h3
      have h4 : at0 l (4 * above (evs l) hi) ≤ at0 l k := h.le hge hk
      omega
    · rw [Int.toNat_natCast]
      exact ⟨by omega, Nat.le_refl _, fun k hk h1 h2 => ⟨hlow k hk h1, hk⟩⟩
theorem below_mono (a : List Int) {p r : Int} (h : p ≤ r) : below a p ≤ below a r := by
  unfold below
  refine List.countP_mono_left fun t _ ht => ?_
  have := of_decide_eq_true ht
  exact decide_eq_true (by omega)
theorem above_mono (a : List Int) {s q : Int} (h : s ≤ q) : above a s ≤ above a q := by
  refine Nat.le_of_not_lt fun hlt => ?_
  have h1 := above_not (a := a) (hi := s) hlt
  have h2 := above_gt (a := a) (hi := q) (Nat.lt_of_lt_of_le hlt (above_le_len a s))
  omega
/-- Of a narrower time the span lies within. -/
theorem span_narrow (x : Ix) {p q r s : Int} (h1 : p ≤ r) (h2 : s ≤ q) (hx : (x.a.length : Int) * 4 < x.r + 4) :
    (span x r s).1 = (span x r s).2 ∨ ((span x p q).1 ≤ (span x r s).1 ∧ (span x r s).2 ≤ (span x p q).2) := by
  by_cases c : s < r ∨ right x = false ∨ x.r = 0 ∨ s < at0 x.a 0 ∨ x.m < r
  · left
    unfold span
    rw [if_pos c]
  · right
    have d : ¬ (q < p ∨ right x = false ∨ x.r = 0 ∨ q < at0 x.a 0 ∨ x.m < p) := by
      rintro (e | e | e | e | e)
      · have : ¬ s < r := fun h => c (.inl h)
        omega
      · exact c (.inr (.inl e))
      · exact c (.inr (.inr (.inl e)))
      · have : ¬ s < at0 x.a 0 := fun h => c (.inr (.inr (.inr (.inl h))))
        omega
      · have : ¬ x.m < r := fun h => c (.inr (.inr (.inr (.inr h))))
        omega
    unfold span
    rw [if_neg c, if_neg d]
    have hb := below_mono x.a h1
    have ha := above_mono x.a h2
    have hl := above_le_len x.a q
    simp only
    refine ⟨by omega, ?_⟩
    split
    · split
      · omega
      · omega
    · rw [if_neg (by omega)]
      exact Nat.le_refl _
/-- Where a span begins and ends. -/
theorem span_places (l : List Int) (lo hi : Int) : (span (ix l) lo hi).1 % 4 = 0 ∧ ((span (ix l) lo hi).2 % 4 = 0 ∨ (span (ix l) lo hi).2 = l.length) := by
  unfold span
  split
  · simp
  · simp only
    refine ⟨by omega, ?_⟩
    split
    · left; omega
    · right; exact Int.toNat_natCast _
/-- Of all time it is all. -/
theorem span_all {l : List Int} (hl : l.length ≤ 1048576) (h : Rise l) {lo hi : Int} (h1 : ∀ t ∈ l, lo ≤ t) (h2 : ∀ t ∈ l, t ≤ hi) (h3 : lo ≤ hi) : span (ix l) lo hi = (0, l.length) := by
  have hR := right_ix hl h
  have hle := evs_len l
  by_cases e : l.length = 0
  · unfold span
    rw [if_pos (.inr (.inr (.inl (by show ((l.length : Nat) : Int) = 0; omega)))), e]
  · have hmem : ∀ i, i < l.length → lo ≤ at0 l i ∧ at0 l i ≤ hi := fun i hi' => by
      rw [at0_eq hi']; exact ⟨h1 _ (List.getElem_mem hi'), h2 _ (List.getElem_mem hi')⟩
    have hb : below (evs l) lo = 0 := by
      unfold below
      rw [List.countP_eq_zero]
      intro t ht
      obtain ⟨k, hk, rfl⟩ := List.getElem_of_mem ht
      rw [← at0_eq hk, evs_at (by rw [← hle]; exact hk)]
      have h5 := (hmem (4 * k) (by omega)).1
      intro h6
      have h7 := of_decide_eq_true h6
      omega
    have ha : ¬ above (evs l) hi < (evs l).length := fun hlt => by
      have := above_gt hlt
      rw [evs_at (by rw [← hle]; exact hlt)] at this
      have := (hmem (4 * above (evs l) hi) (by omega)).2
      omega
    unfold span
    rw [if_neg]
    · show (4 * (below (evs l) lo - 1), if above (evs l) hi < (evs l).length then 4 * above (evs l) hi else ((l.length : Nat) : Int).toNat) = _
      rw [hb, if_neg ha, Int.toNat_natCast]
    · rintro (e' | e' | e' | e' | e')
      · omega
      · rw [hR] at e'; cases e'
      · have : ((l.length : Nat) : Int) = 0 := e'
        omega
      · have : hi < at0 (evs l) 0 := e'
        rw [evs_at (by omega), Nat.mul_zero] at this
        have := (hmem 0 (by omega)).2
        omega
      · have : lst l < lo := e'
        have h4 := (hmem (l.length - 1) (by omega)).1
        unfold lst at this
        omega
end Go.Proofs.Ytaehchaimlklnaa.Tk
