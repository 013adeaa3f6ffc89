/-
  Ythibeoohhcmejaa facts on framed bytes: what a Seal is, what is opened, all that are opened one behind the other. No program here.
-/
import Derived.Test.YthibeoohhcmejaaSum
namespace Go.Proofs.Ythibeoohhcmejaa.K

/-- Four bytes, the lowest first. -/
def four (n : Nat) : List UInt8 := [UInt8.ofNat n, UInt8.ofNat (n / 256), UInt8.ofNat (n / 65536), UInt8.ofNat (n / 16777216)]
def at_ (b : List UInt8) (k : Nat) : Nat := (b.getD k 0).toNat
def num (b : List UInt8) : Nat := at_ b 0 + 256 * at_ b 1 + 65536 * at_ b 2 + 16777216 * at_ b 3
theorem at_lt (b : List UInt8) (k : Nat) : at_ b k < 256 := (b.getD k 0).toNat_lt
theorem num_lt (b : List UInt8) : num b < 4294967296 := by
  have h0 := at_lt b 0; have h1 := at_lt b 1; have h2 := at_lt b 2; have h3 := at_lt b 3
  unfold num; omega
theorem four_len (n : Nat) : (four n).length = 4 := rfl
theorem ofNat_toNat (n : Nat) : (UInt8.ofNat n).toNat = n % 256 := by simp
theorem num_four {n : Nat} (h : n < 4294967296) (r : List UInt8) : num (four n ++ r) = n := by
  unfold num at_ four
  simp only [List.cons_append, List.nil_append, List.getD_cons_zero, List.getD_cons_succ, ofNat_toNat]
  omega
theorem num_app {b r : List UInt8} (h : 4 ≤ b.length) : num (b ++ r) = num b := by
  match b, h with
  | _ :: _ :: _ :: _ :: _, _ => simp [num, at_]
theorem four_num {b : List UInt8} (h : 4 ≤ b.length) : four (num b) = b.take 4 := by
  match b, h with
  | x :: y :: z :: t :: r, _ =>
    have hx := x.toNat_lt; have hy := y.toNat_lt; have hz := z.toNat_lt; have ht := t.toNat_lt
    simp only [num, at_, List.getD_cons_zero, List.getD_cons_succ, List.take_succ_cons, List.take_zero, four]
    have e : ∀ (m : Nat) (u : UInt8), m % 256 = u.toNat → UInt8.ofNat m = u := fun m u hm => by
      apply UInt8.toNat.inj
      rw [ofNat_toNat]; exact hm
    rw [e _ x (by omega), e _ y (by omega), e _ z (by omega), e _ t (by omega)]
theorem four_inj {a b : Nat} (ha : a < 4294967296) (hb : b < 4294967296) (h : four a = four b) : a = b := by
  have h1 := num_four ha []
  have h2 := num_four hb []
  rw [h] at h1
  omega

/-- What is written for bytes. -/
def frm (b : List UInt8) : List UInt8 := four b.length ++ (four (4294967295 - b.length) ++ (b ++ four (S.crc b)))
theorem frm_len (b : List UInt8) : (frm b).length = b.length + 12 := by
  simp only [frm, List.length_append, four_len]; omega
/-- What begins here. -/
def opn (b : List UInt8) : List UInt8 × Nat × Nat :=
  if b.length < 8 then ([], 0, 10) else if num (b.drop 4) ≠ 4294967295 - num b then ([], 0, 14) else if 1048576 < num b then ([], 0, 3)
  else if b.length < num b + 12 then ([], 0, 10) else if num (b.drop (8 + num b)) ≠ S.crc ((b.drop 8).take (num b)) then ([], 0, 14)
  else ((b.drop 8).take (num b), 12 + num b, 0)
def opens (b : List UInt8) (p : Int) : List UInt8 × Nat × Nat :=
  if p < 0 ∨ (b.length : Int) < p then ([], 0, 1) else if (opn (b.drop p.toNat)).2.2 ≠ 0 then ([], 0, (opn (b.drop p.toNat)).2.2) else ((opn (b.drop p.toNat)).1, p.toNat + (opn (b.drop p.toNat)).2.1, 0)

theorem opn_frm {b : List UInt8} (h : b.length ≤ 1048576) (z : List UInt8) : opn (frm b ++ z) = (b, 12 + b.length, 0) := by
  have hc := S.crc_lt b
  have hn : num (frm b ++ z) = b.length := by unfold frm; rw [List.append_assoc]; exact num_four (by omega) _
  have h4 : num ((frm b ++ z).drop 4) = 4294967295 - b.length := by
    have e : (frm b ++ z).drop 4 = four (4294967295 - b.length) ++ (b ++ four (S.crc b) ++ z) := by simp [frm, four]
    rw [e]; exact num_four (by omega) _
  have h8 : (frm b ++ z).drop 8 = b ++ (four (S.crc b) ++ z) := by simp [frm, four]
  have h12 : (frm b ++ z).drop (8 + b.length) = four (S.crc b) ++ z := by
    rw [← List.drop_drop, h8, List.drop_left]
  unfold opn
  rw [if_neg (by rw [List.length_append, frm_len]; omega), h4, hn, if_neg (by simp), if_neg (by omega), if_neg (by rw [List.length_append, frm_len]; omega), h12, h8, num_four hc, List.take_left, if_neg (by simp)]
/-- Where something is opened it has its place, and its bytes are those that are written. -/
theorem opn_ok {b x : List UInt8} {k : Nat} (h : opn b = (x, k, 0)) : b.take k = frm x ∧ x.length ≤ 1048576 ∧ k = 12 + x.length ∧ k ≤ b.length := by
  unfold opn at h
  split at h
  · simp at h
  split at h
  · simp at h
  split at h
  · simp at h
  split at h
  · simp at h
  split at h
  · simp at h
  rename_i h8 h4 hl hk hs
  simp only [Prod.mk.injEq, and_true] at h
  obtain ⟨rfl, rfl⟩ := h
  have hxl : ((b.drop 8).take (num b)).length = num b := by simp; omega
  have hs' : num (b.drop (8 + num b)) = S.crc ((b.drop 8).take (num b)) := by simpa using hs
  have h4' : num (b.drop 4) = 4294967295 - num b := by simpa using h4
  refine ⟨?_, by omega, by omega, by omega⟩
  unfold frm
  rw [hxl, ← hs', ← h4', four_num (by omega), four_num (by simp; omega), four_num (by simp; omega)]
  have e : b.take (12 + num b) = b.take 4 ++ ((b.drop 4).take 4 ++ ((b.drop 8).take (num b) ++ (b.drop (8 + num b)).take 4)) := by
    have e1 : b.take (12 + num b) = b.take 4 ++ (b.drop 4).take (8 + num b) := by rw [show 12 + num b = 4 + (8 + num b) from by omega, List.take_add]
    have e2 : (b.drop 4).take (8 + num b) = (b.drop 4).take 4 ++ (b.drop 8).take (4 + num b) := by rw [show 8 + num b = 4 + (4 + num b) from by omega, List.take_add, List.drop_drop]
    have e3 : (b.drop 8).take (4 + num b) = (b.drop 8).take (num b) ++ (b.drop (8 + num b)).take 4 := by rw [show 4 + num b = num b + 4 from by omega, List.take_add, List.drop_drop]
    rw [e1, e2, e3]
  rw [e]
theorem opn_err_le (b : List UInt8) : (opn b).2.2 = 0 ∨ (opn b).1 = [] ∧ (opn b).2.1 = 0 ∧ ((opn b).2.2 = 10 ∨ (opn b).2.2 = 14 ∨ (opn b).2.2 = 3) := by
  unfold opn
  split
  · right; simp
  split
  · right; simp
  split
  · right; simp
  split
  · right; simp
  split
  · right; simp
  · left; rfl
theorem opn_step {b : List UInt8} (h : (opn b).2.2 = 0) : 12 ≤ (opn b).2.1 ∧ (opn b).2.1 ≤ b.length := by
  obtain ⟨_, h2, h3, h4⟩ := opn_ok (b := b) (x := (opn b).1) (k := (opn b).2.1) (by rw [← h])
  omega
/-- What is behind what is opened does not matter. -/
theorem opn_front {b : List UInt8} (h : (opn b).2.2 = 0) (z : List UInt8) : opn (b ++ z) = opn b := by
  obtain ⟨h1, h2, h3, h4⟩ := opn_ok (b := b) (x := (opn b).1) (k := (opn b).2.1) (by rw [← h])
  have e : b ++ z = frm (opn b).1 ++ (b.drop (opn b).2.1 ++ z) := by rw [← h1, ← List.append_assoc, List.take_append_drop]
  rw [e, opn_frm h2, ← h3, ← h]

/-- All that are opened one behind the other, where they end, and why. -/
def allF : Nat → List UInt8 → List (List UInt8) × Nat × Nat
  | 0, _ => ([], 0, 0)
  | f + 1, b => if b = [] then ([], 0, 0) else if (opn b).2.2 ≠ 0 then ([], 0, (opn b).2.2) else ((opn b).1 :: (allF f (b.drop (opn b).2.1)).1, (opn b).2.1 + (allF f (b.drop (opn b).2.1)).2.1, (allF f (b.drop (opn b).2.1)).2.2)
theorem allF_nil (f : Nat) : allF f [] = ([], 0, 0) := by cases f <;> simp [allF]
theorem allF_same : ∀ (f g : Nat) (b : List UInt8), b.length ≤ f → b.length ≤ g → allF f b = allF g b
  | 0, g, b, hf, _ => by
    have : b = [] := List.eq_nil_of_length_eq_zero (by omega)
    subst this
    rw [allF_nil, allF_nil]
  | f + 1, 0, b, _, hg => by
    have : b = [] := List.eq_nil_of_length_eq_zero (by omega)
    subst this
    rw [allF_nil, allF_nil]
  | f + 1, g + 1, b, hf, hg => by
    simp only [allF]
    by_cases h0 : b = []
    · rw [if_pos h0, if_pos h0]
    · by_cases h1 : (opn b).2.2 = 0
      · have hs := opn_step h1
        rw [allF_same f g (b.drop (opn b).2.1) (by simp; omega) (by simp; omega)]
      · simp [h0, h1]
def all (b : List UInt8) : List (List UInt8) × Nat × Nat := allF b.length b
theorem all_nil : all [] = ([], 0, 0) := rfl
theorem all_bad {b : List UInt8} (h0 : b ≠ []) (h1 : (opn b).2.2 ≠ 0) : all b = ([], 0, (opn b).2.2) := by
  unfold all
  cases hb : b.length with
  | zero => exact absurd (List.eq_nil_of_length_eq_zero hb) h0
  | succ f => rw [allF, if_neg h0, if_pos h1]
theorem all_ok {b : List UInt8} (h0 : b ≠ []) (h1 : (opn b).2.2 = 0) : all b = ((opn b).1 :: (all (b.drop (opn b).2.1)).1, (opn b).2.1 + (all (b.drop (opn b).2.1)).2.1, (all (b.drop (opn b).2.1)).2.2) := by
  have hs := opn_step h1
  unfold all
  cases hb : b.length with
  | zero => exact absurd (List.eq_nil_of_length_eq_zero hb) h0
  | succ f =>
    rw [allF, if_neg h0, if_neg (by simp [h1]), allF_same f (b.drop (opn b).2.1).length _ (by simp; omega) (Nat.le_refl _)]
/-- The Seals of some texts. -/
def written (l : List (List UInt8)) : List UInt8 := l.flatMap frm
theorem written_nil : written [] = [] := rfl
theorem written_cons (x : List UInt8) (l : List (List UInt8)) : written (x :: l) = frm x ++ written l := rfl
theorem written_snoc (x : List UInt8) (l : List (List UInt8)) : written (l ++ [x]) = written l ++ frm x := by simp [written]
theorem frm_ne (x : List UInt8) : frm x ≠ [] := fun h => by have := frm_len x; rw [h] at this; simp at this
theorem all_frm {x : List UInt8} (h : x.length ≤ 1048576) (z : List UInt8) : all (frm x ++ z) = (x :: (all z).1, (frm x).length + (all z).2.1, (all z).2.2) := by
  have ho := opn_frm h z
  have hne : frm x ++ z ≠ [] := by simp [frm_ne]
  have hd : (frm x ++ z).drop (12 + x.length) = z := by rw [show 12 + x.length = (frm x).length from by rw [frm_len]; omega, List.drop_left]
  rw [all_ok hne (by rw [ho]), ho]
  simp only
  rw [hd, frm_len, Nat.add_comm 12]
/-- Seals, and what stands behind them as if it stood alone. -/
theorem all_written (l : List (List UInt8)) (h : ∀ x ∈ l, x.length ≤ 1048576) (z : List UInt8) : all (written l ++ z) = (l ++ (all z).1, (written l).length + (all z).2.1, (all z).2.2) := by
  induction l with
  | nil => simp [written]
  | cons x r ih =>
    have ih' := ih (fun y hy => h y (by simp [hy]))
    rw [written_cons, List.append_assoc, all_frm (h x (by simp)), ih']
    simp [Nat.add_assoc]
theorem all_whole (l : List (List UInt8)) (h : ∀ x ∈ l, x.length ≤ 1048576) : all (written l) = (l, (written l).length, 0) := by
  have := all_written l h []
  rw [all_nil] at this
  simpa using this
/-- A Seal that is cut off. -/
theorem opn_cut {x : List UInt8} (h : x.length ≤ 1048576) {c : Nat} (hc : c < (frm x).length) : opn ((frm x).take c) = ([], 0, 10) := by
  have hsl := frm_len x
  have hl : ((frm x).take c).length = c := by simp; omega
  unfold opn
  rw [hl]
  by_cases h8 : c < 8
  · rw [if_pos h8]
  · have e : (frm x).take c = four x.length ++ (four (4294967295 - x.length) ++ (x ++ four (S.crc x)).take (c - 8)) := by
      unfold frm
      rw [List.take_append, four_len, List.take_append, four_len, List.take_of_length_le (by rw [four_len]; omega), List.take_of_length_le (by rw [four_len]; omega), show c - 4 - 4 = c - 8 from by omega]
    have hn : num ((frm x).take c) = x.length := by rw [e]; exact num_four (by omega) _
    have h4 : num (((frm x).take c).drop 4) = 4294967295 - x.length := by
      rw [e, List.drop_left' (four_len _)]; exact num_four (by omega) _
    rw [if_neg h8, hn, h4, if_neg (by simp), if_neg (by omega), if_pos (by omega)]
theorem written_len_le (l : List (List UInt8)) : 12 * l.length ≤ (written l).length := by
  induction l with
  | nil => simp [written]
  | cons x r ih => rw [written_cons]; simp only [List.length_append, frm_len, List.length_cons]; omega
/-- Seals that are cut off give those that are whole. -/
theorem all_cut (l : List (List UInt8)) (h : ∀ x ∈ l, x.length ≤ 1048576) (c : Nat) (hc : c ≤ (written l).length) :
    ∃ j, j ≤ l.length ∧ (written (l.take j)).length ≤ c ∧ all ((written l).take c) = (l.take j, (written (l.take j)).length, if (written (l.take j)).length = c then 0 else 10) := by
  induction l generalizing c with
  | nil =>
    have : c = 0 := by simpa [written] using hc
    subst this
    exact ⟨0, by simp, by simp [written], by simp [written, all_nil]⟩
  | cons x r ih =>
    have hx := h x (by simp)
    by_cases hlt : c < (frm x).length
    · refine ⟨0, by simp, by simp [written], ?_⟩
      have hwl : (written ((x :: r).take 0)).length = 0 := by simp [written]
      rw [hwl, written_cons, List.take_append_of_le_length (by omega)]
      by_cases h0 : c = 0
      · subst h0; simp [all_nil]
      · have hne : (frm x).take c ≠ [] := fun hh => by
          have := congrArg List.length hh
          rw [List.length_take, List.length_nil] at this
          omega
        rw [all_bad hne (by rw [opn_cut hx hlt]; simp), opn_cut hx hlt]
        rw [if_neg (by omega)]
        rfl
    · obtain ⟨j, hj, hw, ha⟩ := ih (fun y hy => h y (by simp [hy])) (c - (frm x).length) (by rw [written_cons] at hc; simp at hc; omega)
      refine ⟨j + 1, by simp; omega, by rw [List.take_succ_cons, written_cons]; simp; omega, ?_⟩
      rw [written_cons, List.take_append, List.take_of_length_le (by omega), all_frm hx, ha, List.take_succ_cons, written_cons]
      simp only [List.length_append]
      congr 2
      by_cases he : (written (r.take j)).length = c - (frm x).length
      · rw [if_pos he, if_pos (by omega)]
      · rw [if_neg he, if_neg (by omega)]
/-- Bytes of which one is turned have another sum. -/
theorem crc_one (p r : List UInt8) (b c : UInt8) (h : c ≠ b) : S.crc (p ++ c :: r) ≠ S.crc (p ++ b :: r) := by
  unfold S.crc
  intro he
  have he2 : S.run 0xffffffff (p ++ c :: r) = S.run 0xffffffff (p ++ b :: r) := by
    have := congrArg (· ^^^ 4294967295) he
    simpa [Nat.xor_assoc] using this
  rw [S.run_append, S.run_append, S.run_cons, S.run_cons] at he2
  generalize hs : S.run 4294967295 p = s at he2
  have hsl : s < 4294967296 := by rw [← hs]; exact S.run_lt p (by omega)
  have hcl := c.toNat_lt
  have hbl := b.toNat_lt
  obtain ⟨d, hd⟩ : ∃ d, d = S.byte s c.toNat ^^^ S.byte s b.toNat := ⟨_, rfl⟩
  have hdl : d < 4294967296 := by rw [hd]; exact S.xlt (S.byte_lt hsl (by omega)) (S.byte_lt hsl (by omega))
  have hdn : d ≠ 0 := by
    intro h0
    have e : d = S.steps 8 (c.toNat ^^^ b.toNat) := by
      rw [hd]
      unfold S.byte
      rw [← S.steps_xor]
      congr 1
      rw [Nat.xor_comm s c.toNat, Nat.xor_assoc, ← Nat.xor_assoc s s, Nat.xor_self, Nat.zero_xor]
    have hx := S.steps_inj 8 (c := c.toNat ^^^ b.toNat) (S.xlt (by omega) (by omega)) (by rw [← e]; exact h0)
    have : c.toNat = b.toNat := by
      have h2 := congrArg (· ^^^ b.toNat) hx
      simpa [Nat.xor_assoc] using h2
    exact h (UInt8.toNat.inj this)
  have e1 : S.byte s c.toNat = S.byte s b.toNat ^^^ d := by
    rw [hd, Nat.xor_comm (S.byte s c.toNat), ← Nat.xor_assoc, Nat.xor_self, Nat.zero_xor]
  have e2 := S.run_mix r (S.noughts r.length) (S.byte s b.toNat) d (by simp [S.noughts])
  rw [S.mix_noughts, ← e1, he2] at e2
  have e3 : S.run d (S.noughts r.length) = 0 := by
    have := congrArg (S.run (S.byte s b.toNat) r ^^^ ·) e2
    simp only [Nat.xor_self] at this
    rw [← Nat.xor_assoc, Nat.xor_self, Nat.zero_xor] at this
    exact this.symm
  exact S.run_noughts_ne r.length hdl hdn e3
theorem crc_set {x : List UInt8} {m : Nat} {c : UInt8} (hm : m < x.length) (h : c ≠ x[m]) : S.crc (x.set m c) ≠ S.crc x := by
  have e1 : x.set m c = x.take m ++ c :: x.drop (m + 1) := List.set_eq_take_append_cons_drop.trans (by rw [if_pos hm])
  have e2 : x = x.take m ++ x[m] :: x.drop (m + 1) := by rw [← List.drop_eq_getElem_cons hm, List.take_append_drop]
  rw [e1]
  intro he
  rw [show S.crc x = S.crc (x.take m ++ x[m] :: x.drop (m + 1)) from congrArg S.crc e2] at he
  exact crc_one _ _ _ _ h he
theorem set_ne {l : List UInt8} {m : Nat} {c : UInt8} (hm : m < l.length) (h : c ≠ l[m]) : l.set m c ≠ l := by
  intro he
  have := congrArg (fun r => r[m]?) he
  simp [hm] at this
  exact h this
theorem frm_near {x y z z' : List UInt8} {n : Nat} {c : UInt8} (hx : x.length ≤ 1048576) (hy : y.length ≤ 1048576) (hn : n < (frm x).length) (hc : c ≠ (frm x)[n]) : (frm x).set n c ++ z ≠ frm y ++ z' := by
  intro he
  have hxl := frm_len x
  have hyl := frm_len y
  have t4 := congrArg (List.take 4) he
  have d4 := congrArg (fun l => (l.drop 4).take 4) he
  have r1 : (frm y ++ z').take 4 = four y.length := by simp [frm, four]
  have r2 : ((frm y ++ z').drop 4).take 4 = four (4294967295 - y.length) := by simp [frm, four]
  rw [r1] at t4
  simp only [r2] at d4
  have l1 : ((frm x).set n c ++ z).take 4 = ((four x.length ++ (four (4294967295 - x.length) ++ (x ++ four (S.crc x)))).set n c).take 4 := by
    rw [List.take_append_of_le_length (by rw [List.length_set]; omega)]; rfl
  have l2 : (((frm x).set n c ++ z).drop 4).take 4 = (((frm x).set n c).drop 4).take 4 := by
    rw [List.drop_append_of_le_length (by rw [List.length_set]; omega), List.take_append_of_le_length (by rw [List.length_drop, List.length_set]; omega)]
  rw [l1] at t4
  rw [l2] at d4
  have key : ∀ (a : Nat) (m : Nat) (hm : m < 4), c ≠ (four a)[m]'hm → (four a).set m c ≠ four a := fun a m hm h => set_ne hm h
  by_cases h4 : n < 4
  · have e2 : (((frm x).set n c).drop 4).take 4 = four (4294967295 - x.length) := by
      rw [List.drop_set, if_pos h4]; simp [frm, four]
    rw [e2] at d4
    have hl : x.length = y.length := by have := four_inj (by omega) (by omega) d4; omega
    rw [List.set_append_left _ _ (by rw [four_len]; exact h4), List.take_append_of_le_length (by rw [List.length_set, four_len]; omega), List.take_of_length_le (by rw [List.length_set, four_len]; omega), ← hl] at t4
    refine key x.length n h4 ?_ t4
    intro h; apply hc; rw [h]; simp only [frm]; rw [List.getElem_append_left (by rw [four_len]; exact h4)]; rfl
  · have e1 : ((four x.length ++ (four (4294967295 - x.length) ++ (x ++ four (S.crc x)))).set n c).take 4 = four x.length := by
      rw [List.set_append_right _ _ (by rw [four_len]; omega), List.take_left' (four_len _)]
    rw [e1] at t4
    have hl : x.length = y.length := four_inj (by omega) (by omega) t4
    have e3 : ((frm x).set n c).drop 4 = (four (4294967295 - x.length) ++ (x ++ four (S.crc x))).set (n - 4) c := by
      rw [List.drop_set, if_neg h4]; simp [frm, four]
    by_cases h8 : n < 8
    · rw [e3, List.set_append_left _ _ (by rw [four_len]; omega), List.take_append_of_le_length (by rw [List.length_set, four_len]; omega), List.take_of_length_le (by rw [List.length_set, four_len]; omega), ← hl] at d4
      refine key _ (n - 4) (by omega) ?_ d4
      intro h; apply hc; rw [h]; simp only [frm]
      rw [List.getElem_append_right (by rw [four_len]; omega), List.getElem_append_left (by rw [four_len, four_len]; omega)]
      rfl
    · have hw := (List.append_inj he (by rw [List.length_set]; omega)).1
      have d8 := congrArg (List.drop 8) hw
      have s8 : (frm y).drop 8 = y ++ four (S.crc y) := by simp [frm, four]
      have q8 : ((frm x).set n c).drop 8 = (x ++ four (S.crc x)).set (n - 8) c := by
        rw [List.drop_set, if_neg h8]; simp [frm, four]
      rw [s8, q8] at d8
      by_cases hi : n - 8 < x.length
      · rw [List.set_append_left _ _ hi] at d8
        obtain ⟨f1, f2⟩ := List.append_inj d8 (by rw [List.length_set]; omega)
        have f3 := four_inj (S.crc_lt x) (S.crc_lt y) f2
        rw [← f1] at f3
        refine crc_set hi ?_ f3.symm
        intro h; apply hc; rw [h]; simp only [frm]
        rw [List.getElem_append_right (by rw [four_len]; omega), List.getElem_append_right (by rw [four_len, four_len]; omega), List.getElem_append_left (by simp only [four_len]; omega)]
        simp only [four_len]
        congr 1
      · rw [List.set_append_right _ _ (by omega)] at d8
        obtain ⟨f1, f2⟩ := List.append_inj d8 hl
        rw [← f1] at f2
        refine key _ (n - 8 - x.length) (by omega) ?_ f2
        intro h; apply hc; rw [h]; simp only [frm]
        rw [List.getElem_append_right (by rw [four_len]; omega), List.getElem_append_right (by rw [four_len, four_len]; omega), List.getElem_append_right (by simp only [four_len]; omega)]
        simp only [four_len]
        congr 1
theorem opn_turned {x : List UInt8} (h : x.length ≤ 1048576) {n : Nat} {c : UInt8} (hn : n < (frm x).length) (hc : c ≠ (frm x)[n]) (z : List UInt8) : (opn ((frm x).set n c ++ z)).2.2 ≠ 0 := by
  intro h0
  obtain ⟨h1, h2, h3, h4⟩ := opn_ok (b := (frm x).set n c ++ z) (x := (opn ((frm x).set n c ++ z)).1) (k := (opn ((frm x).set n c ++ z)).2.1) (by rw [← h0])
  refine frm_near (y := (opn ((frm x).set n c ++ z)).1) (z := z) (z' := ((frm x).set n c ++ z).drop (opn ((frm x).set n c ++ z)).2.1) h h2 hn hc ?_
  rw [← h1, List.take_append_drop]
/-- Seals of which one byte is turned give those ahead of it. -/
theorem all_turned (l : List (List UInt8)) (h : ∀ x ∈ l, x.length ≤ 1048576) (n : Nat) (c : UInt8) (hn : n < (written l).length) (hc : c ≠ (written l)[n]) (z : List UInt8) :
    ∃ j e, j < l.length ∧ (written (l.take j)).length ≤ n ∧ n < (written (l.take (j + 1))).length ∧ e ≠ 0 ∧ all ((written l).set n c ++ z) = (l.take j, (written (l.take j)).length, e) := by
  induction l generalizing n with
  | nil => simp [written] at hn
  | cons x r ih =>
    have hx := h x (by simp)
    by_cases hlt : n < (frm x).length
    · have hcx : c ≠ (frm x)[n] := by
        intro hh; apply hc; rw [hh]; simp only [written_cons]; rw [List.getElem_append_left hlt]
      have ht := opn_turned hx hlt hcx (written r ++ z)
      refine ⟨0, _, by simp, by simp [written], by simp [written]; exact hlt, ht, ?_⟩
      rw [written_cons, List.set_append_left _ _ hlt, List.append_assoc]
      have hne : (frm x).set n c ++ (written r ++ z) ≠ [] := fun hh => by
        have := congrArg List.length hh
        simp only [List.length_append, List.length_set, List.length_nil] at this
        omega
      rw [all_bad hne ht]
      rfl
    · have hn2 : n - (frm x).length < (written r).length := by rw [written_cons, List.length_append] at hn; omega
      obtain ⟨j, e, hj, hw1, hw2, he, ha⟩ := ih (fun y hy => h y (by simp [hy])) (n - (frm x).length) hn2 (by
        intro hh; apply hc; rw [hh]; simp only [written_cons]; rw [List.getElem_append_right (by omega)])
      refine ⟨j + 1, e, by simp; omega, ?_, ?_, he, ?_⟩
      · rw [List.take_succ_cons, written_cons, List.length_append]; omega
      · rw [List.take_succ_cons, written_cons, List.length_append]; omega
      · rw [written_cons, List.set_append_right _ _ (by omega), List.append_assoc, all_frm hx, ha, List.take_succ_cons, written_cons, List.length_append]
theorem frm_inj {a b : List UInt8} (ha : a.length ≤ 1048576) (hb : b.length ≤ 1048576) (h : frm a = frm b) : a = b := by
  have h1 := opn_frm ha []
  have h2 := opn_frm hb []
  rw [h, h2] at h1
  exact (congrArg Prod.fst h1).symm
end Go.Proofs.Ythibeoohhcmejaa.K
