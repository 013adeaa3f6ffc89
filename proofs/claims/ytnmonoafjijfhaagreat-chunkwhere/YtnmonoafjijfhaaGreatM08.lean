/-
  YtnmonoafjijfhaaGreat facts on texts in order of their bytes, and on dictionaries: lists of unlike texts that rise. No program here. Plain facts on dictionaries as bytes: what is written, what is read. No program here.
-/
import GoSem.Op.String
import Derived.Test.YtnmonoafjijfhaaGreatM03
namespace Go.Proofs.YtnmonoafjijfhaaGreat.T

abbrev B := List UInt8
abbrev lt : B → B → Bool := Go.Op.bytesLess

theorem lt_cons (a b : UInt8) (x y : B) : lt (a :: x) (b :: y) = (decide (a < b) || (a == b && lt x y)) := rfl
theorem lt_nil (x : B) : lt x [] = false := by cases x <;> rfl
theorem nil_lt (a : UInt8) (x : B) : lt [] (a :: x) = true := rfl
theorem lt_irrefl (x : B) : lt x x = false := by
  induction x with
  | nil => rfl
  | cons a x ih => rw [lt_cons, ih]; simp [UInt8.lt_irrefl]
theorem lt_iff (a b : UInt8) (x y : B) : lt (a :: x) (b :: y) = true ↔ a.toNat < b.toNat ∨ a = b ∧ lt x y = true := by
  rw [lt_cons]; simp [UInt8.lt_iff_toNat_lt]
theorem lt_trans {x y z : B} (h1 : lt x y = true) (h2 : lt y z = true) : lt x z = true := by
  induction x generalizing y z with
  | nil =>
    cases z with
    | nil => rw [lt_nil] at h2; cases h2
    | cons c z => rfl
  | cons a x ih =>
    cases y with
    | nil => rw [lt_nil] at h1; cases h1
    | cons b y =>
      cases z with
      | nil => rw [lt_nil] at h2; cases h2
      | cons c z =>
        rw [lt_iff] at h1 h2 ⊢
        rcases h1 with h1 | ⟨rfl, h1⟩
        · rcases h2 with h2 | ⟨rfl, h2⟩
          · left; omega
          · left; omega
        · rcases h2 with h2 | ⟨rfl, h2⟩
          · left; omega
          · right; exact ⟨rfl, ih h1 h2⟩
theorem lt_total (x y : B) : lt x y = true ∨ x = y ∨ lt y x = true := by
  induction x generalizing y with
  | nil =>
    cases y with
    | nil => right; left; rfl
    | cons b y => left; rfl
  | cons a x ih =>
    cases y with
    | nil => right; right; rfl
    | cons b y =>
      rw [lt_iff, lt_iff]
      rcases Nat.lt_trichotomy a.toNat b.toNat with h | h | h
      · left; left; exact h
      · have hab : a = b := UInt8.toNat.inj h
        subst hab
        rcases ih y with h | h | h
        · left; right; exact ⟨rfl, h⟩
        · right; left; rw [h]
        · right; right; right; exact ⟨rfl, h⟩
      · right; right; left; exact h
theorem lt_asymm {x y : B} (h : lt x y = true) : lt y x = false := by
  cases e : lt y x with
  | false => rfl
  | true => have := lt_trans h e; rw [lt_irrefl] at this; cases this
/-- Not below: the same, or above. -/
theorem ge_iff {x y : B} (h : lt x y = false) : x = y ∨ lt y x = true := by
  rcases lt_total x y with h1 | h1 | h1
  · rw [h] at h1; cases h1
  · exact .inl h1
  · exact .inr h1
theorem ge_lt {x y z : B} (h1 : lt x y = false) (h2 : lt x z = true) : lt y z = true := by
  rcases ge_iff h1 with rfl | h
  · exact h2
  · exact lt_trans h h2

/-- Rising: each below all behind it. -/
def Rise (d : List B) : Prop := d.Pairwise fun x y => lt x y = true
theorem Rise.nil : Rise [] := List.Pairwise.nil
theorem rise_cons {x : B} {d : List B} : Rise (x :: d) ↔ (∀ y ∈ d, lt x y = true) ∧ Rise d := List.pairwise_cons
/-- Each below the next. -/
def adj : List B → Bool
  | [] => true
  | [_] => true
  | x :: y :: r => lt x y && adj (y :: r)
theorem adj_iff (d : List B) : adj d = true ↔ Rise d := by
  induction d with
  | nil => simp [adj, Rise]
  | cons x r ih =>
    cases r with
    | nil => simp [adj, Rise]
    | cons y r =>
      rw [adj, Bool.and_eq_true, ih, rise_cons, rise_cons, rise_cons]
      constructor
      · rintro ⟨h1, h2, h3⟩
        refine ⟨fun z hz => ?_, h2, h3⟩
        rcases List.mem_cons.1 hz with rfl | hz
        · exact h1
        · exact lt_trans h1 (h2 z hz)
      · rintro ⟨h1, h2, h3⟩
        exact ⟨h1 y (by simp), h2, h3⟩
/-- A text into a dictionary, once. -/
def ins (s : B) : List B → List B
  | [] => [s]
  | x :: r => if lt x s = true then x :: ins s r else if x = s then x :: r else s :: x :: r
theorem mem_ins (s x : B) (d : List B) : x ∈ ins s d ↔ x = s ∨ x ∈ d := by
  induction d with
  | nil => simp [ins]
  | cons y r ih =>
    unfold ins
    split
    · simp only [List.mem_cons, ih]
      constructor
      · rintro (h | h | h)
        · exact .inr (.inl h)
        · exact .inl h
        · exact .inr (.inr h)
      · rintro (h | h | h)
        · exact .inr (.inl h)
        · exact .inl h
        · exact .inr (.inr h)
    · split
      · rename_i h
        simp only [List.mem_cons]
        constructor
        · exact .inr
        · rintro (h' | h')
          · left; rw [h', h]
          · exact h'
      · simp only [List.mem_cons]
theorem rise_ins {s : B} {d : List B} (h : Rise d) : Rise (ins s d) := by
  induction d with
  | nil => simp [ins, Rise]
  | cons y r ih =>
    have h' := rise_cons.1 h
    unfold ins
    split
    · rename_i hl
      rw [rise_cons]
      refine ⟨fun z hz => ?_, ih h'.2⟩
      rcases (mem_ins s z r).1 hz with rfl | hz
      · exact hl
      · exact h'.1 z hz
    · split
      · exact h
      · rename_i hl hne
        rw [rise_cons]
        refine ⟨fun z hz => ?_, h⟩
        have hsy : lt s y = true := by
          rcases ge_iff (Bool.eq_false_iff.2 hl) with h1 | h1
          · exact absurd h1 hne
          · exact h1
        rcases List.mem_cons.1 hz with rfl | hz
        · exact hsy
        · exact lt_trans hsy (h'.1 z hz)
/-- How many stand ahead of a text. -/
def pos (s : B) : List B → Nat
  | [] => 0
  | x :: r => if lt x s = true then pos s r + 1 else 0
theorem pos_le (s : B) (d : List B) : pos s d ≤ d.length := by
  induction d with
  | nil => simp [pos]
  | cons x r ih => unfold pos; split <;> simp <;> omega
theorem pos_below {s : B} {d : List B} {i : Nat} (h : i < pos s d) : ∃ x, d[i]? = some x ∧ lt x s = true := by
  induction d generalizing i with
  | nil => simp [pos] at h
  | cons x r ih =>
    unfold pos at h
    split at h
    · rename_i hl
      cases i with
      | zero => exact ⟨x, rfl, hl⟩
      | succ i => obtain ⟨y, h1, h2⟩ := ih (i := i) (by omega); exact ⟨y, by simpa using h1, h2⟩
    · omega
theorem pos_at {s : B} {d : List B} {x : B} (h : d[pos s d]? = some x) : lt x s = false := by
  induction d with
  | nil => simp at h
  | cons y r ih =>
    unfold pos at h
    split at h
    · exact ih (by simpa using h)
    · rename_i hl
      simp at h
      rw [← h]
      exact Bool.eq_false_iff.2 hl
theorem ins_eq (s : B) (d : List B) : ins s d = if d[pos s d]? = some s then d else d.take (pos s d) ++ s :: d.drop (pos s d) := by
  induction d with
  | nil => simp [ins, pos]
  | cons x r ih =>
    unfold ins pos
    by_cases h : lt x s = true
    · rw [if_pos h, if_pos h, ih, List.getElem?_cons_succ, List.take_succ_cons, List.drop_succ_cons]
      split <;> simp
    · rw [if_neg h, if_neg h]
      by_cases he : x = s
      · rw [if_pos he, if_pos (by simp [he])]
      · rw [if_neg he, if_neg (by simpa using he)]; simp
theorem ins_len (s : B) (d : List B) : (ins s d).length ≤ d.length + 1 := by
  induction d with
  | nil => simp [ins]
  | cons x r ih => unfold ins; split <;> (try split) <;> simp <;> omega
/-- Where a text stands. -/
def idx (s : B) : List B → Option Nat
  | [] => none
  | x :: r => if x = s then some 0 else (idx s r).map (· + 1)
theorem idx_some {s : B} {d : List B} {i : Nat} (h : idx s d = some i) : d[i]? = some s := by
  induction d generalizing i with
  | nil => simp [idx] at h
  | cons x r ih =>
    unfold idx at h
    split at h
    · rename_i he
      simp at h
      subst h
      simp [he]
    · cases hr : idx s r with
      | none => rw [hr] at h; simp at h
      | some j =>
        rw [hr] at h
        simp at h
        subst h
        simpa using ih hr
theorem idx_none {s : B} {d : List B} : idx s d = none ↔ s ∉ d := by
  induction d with
  | nil => simp [idx]
  | cons x r ih =>
    unfold idx
    split
    · rename_i h; simp [h]
    · rename_i h
      simp only [Option.map_eq_none_iff, ih, List.mem_cons, not_or]
      constructor
      · intro h1; exact ⟨fun h2 => h h2.symm, h1⟩
      · exact And.right
theorem idx_mem {s : B} {d : List B} (h : s ∈ d) : ∃ i, idx s d = some i := by
  cases e : idx s d with
  | none => exact absurd h (idx_none.1 e)
  | some i => exact ⟨i, rfl⟩
theorem rise_at {d : List B} (h : Rise d) {i j : Nat} {x y : B} (hx : d[i]? = some x) (hy : d[j]? = some y) (hij : i < j) : lt x y = true := by
  induction d generalizing i j with
  | nil => simp at hx
  | cons z r ih =>
    have h' := rise_cons.1 h
    cases j with
    | zero => omega
    | succ j =>
      cases i with
      | zero =>
        simp at hx
        subst hx
        exact h'.1 y (List.mem_of_getElem? (by simpa using hy))
      | succ i => exact ih h'.2 (by simpa using hx) (by simpa using hy) (by omega)
theorem rise_inj {d : List B} (h : Rise d) {i j : Nat} {x : B} (hx : d[i]? = some x) (hy : d[j]? = some x) : i = j := by
  rcases Nat.lt_trichotomy i j with h1 | h1 | h1
  · have := rise_at h hx hy h1; rw [lt_irrefl] at this; cases this
  · exact h1
  · have := rise_at h hy hx h1; rw [lt_irrefl] at this; cases this
theorem idx_at {d : List B} (h : Rise d) {i : Nat} {x : B} (hx : d[i]? = some x) : idx x d = some i := by
  obtain ⟨j, hj⟩ := idx_mem (List.mem_of_getElem? hx)
  rw [hj, rise_inj h hx (idx_some hj)]
/-- Dictionaries of the same texts are one. -/
theorem rise_same {d e : List B} (hd : Rise d) (he : Rise e) (h : ∀ x, x ∈ d ↔ x ∈ e) : d = e := by
  induction d generalizing e with
  | nil =>
    cases e with
    | nil => rfl
    | cons y r => have := (h y).2 (by simp); simp at this
  | cons x r ih =>
    cases e with
    | nil => have := (h x).1 (by simp); simp at this
    | cons y t =>
      have hd' := rise_cons.1 hd
      have he' := rise_cons.1 he
      have hxy : x = y := by
        have h1 := (h x).1 (by simp)
        have h2 := (h y).2 (by simp)
        rcases List.mem_cons.1 h1 with h1 | h1
        · exact h1
        · rcases List.mem_cons.1 h2 with h2 | h2
          · exact h2.symm
          · have a := he'.1 x h1
            have b := lt_trans a (hd'.1 y h2)
            rw [lt_irrefl] at b
            cases b
      subst hxy
      rw [ih hd'.2 he'.2 (fun z => ?_)]
      constructor
      · intro hz
        rcases List.mem_cons.1 ((h z).1 (by simp [hz])) with rfl | h1
        · have := hd'.1 z hz; rw [lt_irrefl] at this; cases this
        · exact h1
      · intro hz
        rcases List.mem_cons.1 ((h z).2 (by simp [hz])) with rfl | h1
        · have := he'.1 z hz; rw [lt_irrefl] at this; cases this
        · exact h1
/-- The dictionary of some texts. -/
def bld (l : List B) : List B := l.foldl (fun d s => ins s d) []
theorem fold_mem (l d : List B) (x : B) : x ∈ l.foldl (fun d s => ins s d) d ↔ x ∈ l ∨ x ∈ d := by
  induction l generalizing d with
  | nil => simp
  | cons s l ih =>
    rw [List.foldl_cons, ih, mem_ins, List.mem_cons]
    constructor
    · rintro (h | h | h)
      · exact .inl (.inr h)
      · exact .inl (.inl h)
      · exact .inr h
    · rintro ((h | h) | h)
      · exact .inr (.inl h)
      · exact .inl h
      · exact .inr (.inr h)
theorem fold_rise (l d : List B) (h : Rise d) : Rise (l.foldl (fun d s => ins s d) d) := by
  induction l generalizing d with
  | nil => exact h
  | cons s l ih => exact ih _ (rise_ins h)
theorem fold_len (l d : List B) : (l.foldl (fun d s => ins s d) d).length ≤ d.length + l.length := by
  induction l generalizing d with
  | nil => simp
  | cons s l ih => rw [List.foldl_cons]; have h1 := ih (ins s d); have h2 := ins_len s d; simp only [List.length_cons]; omega
theorem mem_bld (l : List B) (x : B) : x ∈ bld l ↔ x ∈ l := by rw [bld, fold_mem]; simp
theorem rise_bld (l : List B) : Rise (bld l) := fold_rise l [] Rise.nil
theorem bld_len (l : List B) : (bld l).length ≤ l.length := by have := fold_len l []; simpa [bld] using this
theorem bld_snoc (l : List B) (s : B) : bld (l ++ [s]) = ins s (bld l) := by simp [bld]
def place (d : List B) (s : B) : Nat := (idx s d).getD 0
theorem place_at {d : List B} {s : B} (h : s ∈ d) : d[place d s]? = some s := by
  obtain ⟨i, hi⟩ := idx_mem h
  rw [place, hi]; exact idx_some hi
/-- A text begins so. -/
def begins (p x : B) : Bool := decide (p.length ≤ x.length) && decide (x.take p.length = p)
theorem begins_iff (p x : B) : begins p x = true ↔ ∃ r, x = p ++ r := by
  unfold begins
  simp only [Bool.and_eq_true, decide_eq_true_eq]
  constructor
  · rintro ⟨_, h⟩
    have h2 := List.take_append_drop p.length x
    rw [h] at h2
    exact ⟨x.drop p.length, h2.symm⟩
  · rintro ⟨r, rfl⟩; simp
theorem begins_nil (x : B) : begins [] x = true := (begins_iff _ _).2 ⟨x, rfl⟩
theorem begins_self (x : B) : begins x x = true := (begins_iff _ _).2 ⟨[], by simp⟩
theorem begins_ge {p x : B} (h : begins p x = true) : lt x p = false := by
  obtain ⟨r, rfl⟩ := (begins_iff p x).1 h
  clear h
  induction p with
  | nil => exact lt_nil _
  | cons a p ih => rw [List.cons_append, lt_cons, ih]; simp [UInt8.lt_irrefl]
/-- Above a text that does not begin so, and is not below, none begins so. -/
theorem begins_above {p x y : B} (h1 : lt x p = false) (h2 : begins p x = false) (h3 : lt x y = true) : begins p y = false := by
  cases e : begins p y with
  | false => rfl
  | true =>
    exfalso
    obtain ⟨r, rfl⟩ := (begins_iff p y).1 e
    clear e
    induction p generalizing x with
    | nil => rw [begins_nil] at h2; cases h2
    | cons a p ih =>
      cases x with
      | nil => rw [nil_lt] at h1; cases h1
      | cons b x =>
        rw [List.cons_append, lt_iff] at h3
        have h1' : ¬ (b.toNat < a.toNat ∨ b = a ∧ lt x p = true) := by rw [← lt_iff]; simp [h1]
        rcases h3 with h3 | ⟨rfl, h3⟩
        · exact h1' (.inl h3)
        · refine ih (x := x) ?_ ?_ h3
          · cases e : lt x p with
            | false => rfl
            | true => exact absurd (.inr ⟨rfl, e⟩) h1'
          · cases e : begins p x with
            | false => rfl
            | true =>
              obtain ⟨t, rfl⟩ := (begins_iff p x).1 e
              have : begins (b :: p) (b :: (p ++ t)) = true := (begins_iff _ _).2 ⟨t, rfl⟩
              rw [this] at h2; cases h2
/-- How many of the first ones begin so. -/
def run (p : B) : List B → Nat
  | [] => 0
  | x :: r => if begins p x = true then run p r + 1 else 0
theorem run_le (p : B) (d : List B) : run p d ≤ d.length := by
  induction d with
  | nil => simp [run]
  | cons x r ih => unfold run; split <;> simp <;> omega
theorem run_in {p : B} {d : List B} {i : Nat} (h : i < run p d) : ∃ x, d[i]? = some x ∧ begins p x = true := by
  induction d generalizing i with
  | nil => simp [run] at h
  | cons x r ih =>
    unfold run at h
    split at h
    · rename_i hl
      cases i with
      | zero => exact ⟨x, rfl, hl⟩
      | succ i => obtain ⟨y, h1, h2⟩ := ih (i := i) (by omega); exact ⟨y, by simpa using h1, h2⟩
    · omega
theorem run_at {p : B} {d : List B} {x : B} (h : d[run p d]? = some x) : begins p x = false := by
  induction d with
  | nil => simp at h
  | cons y r ih =>
    unfold run at h
    split at h
    · exact ih (by simpa using h)
    · rename_i hl
      simp at h
      rw [← h]
      exact Bool.eq_false_iff.2 hl
def upto (p : B) (d : List B) : Nat := pos p d + run p (d.drop (pos p d))
theorem upto_le (p : B) (d : List B) : pos p d ≤ upto p d ∧ upto p d ≤ d.length := by
  have h1 := pos_le p d
  have h2 := run_le p (d.drop (pos p d))
  simp only [List.length_drop] at h2
  unfold upto; omega
/-- What begins so stands together. -/
theorem begins_range {d : List B} (h : Rise d) (p : B) {i : Nat} {x : B} (hx : d[i]? = some x) : begins p x = (decide (pos p d ≤ i) && decide (i < upto p d)) := by
  have hil := (List.getElem?_eq_some_iff.1 hx).1
  by_cases h1 : i < pos p d
  · obtain ⟨y, hy, hl⟩ := pos_below h1
    rw [hx] at hy
    simp at hy
    subst hy
    have : begins p x = false := by
      cases e : begins p x with
      | false => rfl
      | true => rw [begins_ge e] at hl; cases hl
    rw [this]; simp; omega
  · by_cases h2 : i < upto p d
    · have hr : i - pos p d < run p (d.drop (pos p d)) := by unfold upto at h2; omega
      obtain ⟨y, hy, hb⟩ := run_in hr
      rw [List.getElem?_drop, show pos p d + (i - pos p d) = i from by omega, hx] at hy
      simp at hy
      subst hy
      rw [hb]; simp; omega
    · have hu := upto_le p d
      obtain ⟨y, hy⟩ : ∃ y, d[upto p d]? = some y := ⟨_, List.getElem?_eq_getElem (by omega)⟩
      have hyb : begins p y = false := run_at (d := d.drop (pos p d)) (by rw [List.getElem?_drop]; exact hy)
      have hyp : lt y p = false := by
        by_cases he : upto p d = pos p d
        · rw [he] at hy; exact pos_at hy
        · obtain ⟨z, hz⟩ : ∃ z, d[pos p d]? = some z := ⟨_, List.getElem?_eq_getElem (by omega)⟩
          have hzp := pos_at hz
          have hzy := rise_at h hz hy (by omega)
          exact lt_asymm (ge_lt hzp hzy)
      have hxb : begins p x = false := by
        by_cases he : i = upto p d
        · rw [he, hy] at hx; simp at hx; rw [← hx]; exact hyb
        · exact begins_above hyp hyb (rise_at h hy hx (by omega))
      rw [hxb]; simp; omega
theorem pos_place {d : List B} (h : Rise d) {i : Nat} {x : B} (hx : d[i]? = some x) : pos x d = i ∧ i < upto x d := by
  have h1 := begins_range h x hx
  rw [begins_self] at h1
  simp only [Bool.true_eq, Bool.and_eq_true, decide_eq_true_eq] at h1
  refine ⟨?_, h1.2⟩
  rcases Nat.lt_or_ge (pos x d) i with h2 | h2
  · exfalso
    obtain ⟨z, hz⟩ : ∃ z, d[pos x d]? = some z := ⟨_, List.getElem?_eq_getElem (by have := (List.getElem?_eq_some_iff.1 hx).1; omega)⟩
    have a := pos_at hz
    have b := rise_at h hz hx h2
    rw [a] at b; cases b
  · omega
end Go.Proofs.YtnmonoafjijfhaaGreat.T
namespace Go.Proofs.YtnmonoafjijfhaaGreat.T

def ptext (s : B) : List UInt8 := M.digs s.length ++ s
def texts (d : List B) : List UInt8 := d.flatMap ptext
def enc (d : List B) : List UInt8 := M.digs d.length ++ texts d
theorem texts_snoc (d : List B) (s : B) : texts (d ++ [s]) = texts d ++ ptext s := by simp [texts]
theorem texts_cons (s : B) (d : List B) : texts (s :: d) = ptext s ++ texts d := by simp [texts]
def fits (d : List B) : Bool := d.all (fun s => decide (s.length ≤ 40)) && (decide (d.length ≤ 16) && adj d)
theorem fits_iff (d : List B) : fits d = true ↔ (∀ s ∈ d, s.length ≤ 40) ∧ d.length ≤ 16 ∧ Rise d := by
  simp [fits, adj_iff]
theorem texts_len (d : List B) (h : ∀ s ∈ d, s.length ≤ 41) : (texts d).length ≤ 51 * d.length := by
  induction d with
  | nil => simp [texts]
  | cons s r ih =>
    have h1 := ih (fun x hx => h x (by simp [hx]))
    have h2 := M.digs_len s.length
    have h3 := h s (by simp)
    rw [texts_cons]
    simp only [ptext, List.length_append, List.length_cons]
    omega
/-- n texts from place k on, behind those that are read. -/
def rd (b : List UInt8) : Nat → Nat → List B → List B × Nat × Nat
  | 0, k, o => (o, k, 0)
  | n + 1, k, o => if (M.getText b k 40).2.2 ≠ 0 then ([], 0, (M.getText b k 40).2.2) else rd b n (M.getText b k 40).2.1 (o ++ [(M.getText b k 40).1])
def dec (b : List UInt8) (p : Int) : List B × Nat × Nat :=
  if (M.get b p).2.2 ≠ 0 then ([], 0, (M.get b p).2.2) else if 16 < (M.get b p).1 then ([], 0, 4)
  else if (rd b (M.get b p).1 (M.get b p).2.1 []).2.2 ≠ 0 then ([], 0, (rd b (M.get b p).1 (M.get b p).2.1 []).2.2)
  else if adj (rd b (M.get b p).1 (M.get b p).2.1 []).1 = true then ((rd b (M.get b p).1 (M.get b p).2.1 []).1, (rd b (M.get b p).1 (M.get b p).2.1 []).2.1, 0) else ([], 0, 12)
theorem getText_all (b : List UInt8) (p most : Int) : (M.getText b p most).1.length ≤ most.toNat ∧ (M.getText b p most).2.1 ≤ b.length ∧ (M.getText b p most).2.2 ≤ 12 ∧ ((M.getText b p most).2.2 = 0 → p < ((M.getText b p most).2.1 : Int)) := by
  have h := M.get_all b p
  unfold M.getText
  by_cases h1 : (M.get b p).2.2 = 0
  · rw [if_neg (by simpa using h1)]
    have hst : p < ((M.get b p).2.1 : Int) := by
      unfold M.get at h1 ⊢
      by_cases hp : p < 0 ∨ (b.length : Int) < p
      · rw [if_pos hp] at h1; simp at h1
      · rw [if_neg hp] at h1 ⊢
        by_cases he : (M.getR (b.drop p.toNat)).2.2 = 0
        · rw [if_pos he]
          have : 0 < (M.getR (b.drop p.toNat)).2.1 := by
            unfold M.getR at he ⊢
            split at he
            · simp at he
            · split at he
              · rename_i a1 a2
                rw [if_neg a1, if_pos a2]; simp
              · simp at he
          simp only
          omega
        · rw [if_neg he] at h1; exact absurd h1 he
    split
    · simp
    · split
      · simp
      · refine ⟨by simp; omega, by simp; omega, by simp, fun _ => ?_⟩
        simp only
        omega
  · rw [if_pos (by simpa using h1)]
    exact ⟨by simp, by simp, h.2.2, fun h0 => absurd h0 h1⟩
theorem rd_all (b : List UInt8) : ∀ (n k : Nat) (o : List B), (∀ s ∈ o, s.length ≤ 40) → k ≤ b.length →
    ((rd b n k o).2.2 = 0 → (∀ s ∈ (rd b n k o).1, s.length ≤ 40) ∧ (rd b n k o).1.length = o.length + n ∧ (rd b n k o).2.1 ≤ b.length) ∧ ((rd b n k o).2.2 ≠ 0 → (rd b n k o).1 = [] ∧ (rd b n k o).2.1 = 0) ∧ (rd b n k o).2.2 ≤ 12
  | 0, k, o, ho, hk => by simp [rd]; exact ⟨ho, hk⟩
  | n + 1, k, o, ho, hk => by
    have h := getText_all b k 40
    rw [rd]
    by_cases h1 : (M.getText b k 40).2.2 = 0
    · rw [if_neg (by simpa using h1)]
      have hi := rd_all b n (M.getText b k 40).2.1 (o ++ [(M.getText b k 40).1]) (fun s hs => by
        rcases List.mem_append.1 hs with hs | hs
        · exact ho s hs
        · rw [List.mem_singleton] at hs; rw [hs]; have := h.1; omega) h.2.1
      refine ⟨fun h0 => ?_, hi.2.1, hi.2.2⟩
      obtain ⟨a, b', c⟩ := hi.1 h0
      exact ⟨a, by rw [b']; simp; omega, c⟩
    · rw [if_pos (by simpa using h1)]
      exact ⟨fun h0 => absurd h0 h1, fun _ => ⟨rfl, rfl⟩, h.2.2.1⟩
/-- What is read fits, or it is refused. -/
theorem dec_all {b : List UInt8} {p : Int} {d : List B} {k e : Nat} (h : dec b p = (d, k, e)) : (e = 0 → fits d = true ∧ k ≤ b.length) ∧ (e ≠ 0 → d = [] ∧ k = 0) ∧ e ≤ 12 := by
  have hg := M.get_all b p
  unfold dec at h
  split at h
  · rename_i h1
    simp only [Prod.mk.injEq] at h
    obtain ⟨rfl, rfl, rfl⟩ := h
    exact ⟨fun h0 => absurd h0 h1, fun _ => ⟨rfl, rfl⟩, hg.2.2⟩
  split at h
  · simp only [Prod.mk.injEq] at h
    obtain ⟨rfl, rfl, rfl⟩ := h
    simp
  rename_i h1 h2
  have hr := rd_all b (M.get b p).1 (M.get b p).2.1 [] (by simp) hg.2.1
  split at h
  · rename_i h3
    simp only [Prod.mk.injEq] at h
    obtain ⟨rfl, rfl, rfl⟩ := h
    exact ⟨fun h0 => absurd h0 h3, fun _ => ⟨rfl, rfl⟩, hr.2.2⟩
  rename_i h3
  split at h
  · rename_i h4
    simp only [Prod.mk.injEq] at h
    obtain ⟨rfl, rfl, rfl⟩ := h
    obtain ⟨a, b', c⟩ := hr.1 (by simpa using h3)
    refine ⟨fun _ => ⟨(fits_iff _).2 ⟨a, by rw [b']; simp; omega, (adj_iff _).1 h4⟩, c⟩, fun h0 => absurd rfl h0, by simp⟩
  · simp only [Prod.mk.injEq] at h
    obtain ⟨rfl, rfl, rfl⟩ := h
    simp
theorem getText_at (l s r : List UInt8) (h : s.length ≤ 40) : M.getText (l ++ ptext s ++ r) (l.length : Int) 40 = (s, (l ++ ptext s).length, 0) := by
  unfold M.getText ptext
  have e1 : l ++ (M.digs s.length ++ s) ++ r = l ++ M.digs s.length ++ (s ++ r) := by simp
  rw [e1, M.get_digs (by omega) l (s ++ r)]
  simp only
  rw [if_neg (by simp), if_neg (by omega), if_neg (by simp; omega)]
  have e : (l ++ M.digs s.length ++ (s ++ r)).drop (l.length + (M.digs s.length).length) = s ++ r := by
    rw [← List.length_append]; simp
  rw [e]
  simp
  omega
theorem rd_texts (d : List B) (h : ∀ s ∈ d, s.length ≤ 40) (P Z : List UInt8) (o : List B) : rd (P ++ texts d ++ Z) d.length P.length o = (o ++ d, (P ++ texts d).length, 0) := by
  induction d generalizing P o with
  | nil => simp [rd, texts]
  | cons s r ih =>
    have hs := h s (by simp)
    have e : P ++ texts (s :: r) ++ Z = P ++ ptext s ++ (texts r ++ Z) := by rw [texts_cons]; simp
    have e2 : P ++ ptext s ++ (texts r ++ Z) = (P ++ ptext s) ++ texts r ++ Z := by simp
    rw [e, List.length_cons, rd, getText_at P s _ hs]
    simp only [ne_eq, not_true_eq_false, if_false]
    rw [e2, ih (fun x hx => h x (by simp [hx])), texts_cons]
    simp
/-- What is written is read, behind anything and ahead of anything. -/
theorem dec_enc {d : List B} (h : fits d = true) (A Z : List UInt8) : dec (A ++ enc d ++ Z) (A.length : Int) = (d, (A ++ enc d).length, 0) := by
  obtain ⟨h1, h2, h3⟩ := (fits_iff d).1 h
  have e : A ++ enc d ++ Z = A ++ M.digs d.length ++ (texts d ++ Z) := by simp [enc]
  have e2 : A ++ M.digs d.length ++ (texts d ++ Z) = (A ++ M.digs d.length) ++ texts d ++ Z := by simp
  have hr := rd_texts d h1 (A ++ M.digs d.length) Z []
  unfold dec
  rw [e, M.get_digs (by omega) A _]
  simp only [ne_eq, not_true_eq_false, if_false]
  rw [if_neg (by omega), e2, show A.length + (M.digs d.length).length = (A ++ M.digs d.length).length from by simp, hr]
  simp only [not_true_eq_false, if_false, List.nil_append]
  rw [if_pos ((adj_iff d).2 h3)]
  simp [enc]
end Go.Proofs.YtnmonoafjijfhaaGreat.T
