/-
  Ytibnhjfeepdddaa facts on texts in order of their bytes, and on dictionaries: lists of unlike texts that rise. No program here. Plain facts on dictionaries as bytes: what is written, what is read. No program here. Plain facts on Go's bit operations at single numbers: masks, joins and turned bits, in the words of the walk.
-/
import GoSem.Op.String
import Derived.Test.YtibnhjfeepdddaaM01
import Derived.WalkKit
import Derived.Laws.BitsLemmas
namespace Go.Proofs.Ytibnhjfeepdddaa.T

abbrev B := List UInt8
abbrev lt : B → B → Bool := Go.Op.bytesLess

theorem lt_cons (a b : UInt8) (x y : B) : lt (a :: x) (b :: y) = (decide (a < b) || (a == b && lt x y)) := rfl
theorem lt_nil (x : B) : lt x [] = false := by cases x <;> rfl
theorem nil_lt (a : UInt8) (x : B) : lt [] (a :: x) = true := rfl
theorem lt_irrefl (x : B) : lt x x = false := by
 induction x with
 | nil => rfl
 | cons a x ih => rw [lt_cons, ih]; simp [UInt8.lt_irrefl]
theorem lt_iff (a b : UInt8) (x y : B) : lt (a :: x) (b :: y) = true ↔ a.toNat < b.toNat ∨ a = b ∧ lt x y = true := by
 rw [lt_cons]; simp [UInt8.lt_iff_toNat_lt]
theorem lt_trans {x y z : B} (h1 : lt x y = true) (h2 : lt y z = true) : lt x z = true := by
 induction x generalizing y z with
 | nil =>
  cases z with
  | nil => rw [lt_nil] at h2; cases h2
  | cons c z => rfl
 | cons a x ih =>
  cases y with
  | nil => rw [lt_nil] at h1; cases h1
  | cons b y =>
   cases z with
   | nil => rw [lt_nil] at h2; cases h2
   | cons c z =>
    rw [lt_iff] at h1 h2 ⊢
    rcases h1 with h1 | ⟨rfl, h1⟩
    ·rcases h2 with h2 | ⟨rfl, h2⟩
     ·left; omega
     ·left; omega
    ·rcases h2 with h2 | ⟨rfl, h2⟩
     ·left; omega
     ·right; exact ⟨rfl, ih h1 h2⟩
theorem lt_total (x y : B) : lt x y = true ∨ x = y ∨ lt y x = true := by
 induction x generalizing y with
 | nil =>
  cases y with
  | nil => right; left; rfl
  | cons b y => left; rfl
 | cons a x ih =>
  cases y with
  | nil => right; right; rfl
  | cons b y =>
   rw [lt_iff, lt_iff]
   rcases Nat.lt_trichotomy a.toNat b.toNat with h | h | h
   ·left; left; exact h
   ·have hab : a = b := UInt8.toNat.inj h
    subst hab
    rcases ih y with h | h | h
    ·left; right; exact ⟨rfl, h⟩
    ·right; left; rw [h]
    ·right; right; right; exact ⟨rfl, h⟩
   ·right; right; left; exact h
theorem lt_asymm {x y : B} (h : lt x y = true) : lt y x = false := by
 cases e : lt y x with
 | false => rfl
 | true => have := lt_trans h e; rw [lt_irrefl] at this; cases this
theorem lt_ne {x y : B} (h : lt x y = true) : x ≠ y := fun e => by rw [e, lt_irrefl] at h; cases h
/-- Not below: the same, or above. -/
theorem ge_iff {x y : B} (h : lt x y = false) : x = y ∨ lt y x = true := by
 rcases lt_total x y with h1 | h1 | h1
 ·rw [h] at h1; cases h1
 ·exact .inl h1
 ·exact .inr h1
theorem ge_lt {x y z : B} (h1 : lt x y = false) (h2 : lt x z = true) : lt y z = true := by
 rcases ge_iff h1 with rfl | h
 ·exact h2
 ·exact lt_trans h h2

/-- Rising: each below all behind it. -/
def Rise (d : List B) : Prop := d.Pairwise fun x y => lt x y = true
theorem Rise.nil : Rise [] := List.Pairwise.nil
theorem rise_cons {x : B} {d : List B} : Rise (x :: d) ↔ (∀ y ∈ d, lt x y = true) ∧ Rise d := List.pairwise_cons
/-- Each below the next. -/
def adj : List B → Bool
 | [] => true
 | [_] => true
 | x :: y :: r => lt x y && adj (y :: r)
theorem adj_iff (d : List B) : adj d = true ↔ Rise d := by
 induction d with
 | nil => simp [adj, Rise]
 | cons x r ih =>
  cases r with
  | nil => simp [adj, Rise]
  | cons y r =>
   rw [adj, Bool.and_eq_true, ih, rise_cons, rise_cons, rise_cons]
   constructor
   ·rintro ⟨h1, h2, h3⟩
    refine ⟨fun z hz => ?_, h2, h3⟩
    rcases List.mem_cons.1 hz with rfl | hz
    ·exact h1
    ·exact lt_trans h1 (h2 z hz)
   ·rintro ⟨h1, h2, h3⟩
    exact ⟨h1 y (by simp), h2, h3⟩
/-- A text into a dictionary, once. -/
def ins (s : B) : List B → List B
 | [] => [s]
 | x :: r => if lt x s = true then x :: ins s r else if x = s then x :: r else s :: x :: r
theorem mem_ins (s x : B) (d : List B) : x ∈ ins s d ↔ x = s ∨ x ∈ d := by
 induction d with
 | nil => simp [ins]
 | cons y r ih =>
  unfold ins
  split
  ·simp only [List.mem_cons, ih]
   constructor
   ·rintro (h | h | h)
    ·exact .inr (.inl h)
    ·exact .inl h
    ·exact .inr (.inr h)
   ·rintro (h | h | h)
    ·exact .inr (.inl h)
    ·exact .inl h
    ·exact .inr (.inr h)
  ·split
   ·rename_i h
    simp only [List.mem_cons]
    constructor
    ·exact .inr
    ·rintro (h' | h')
     ·left; rw [h', h]
     ·exact h'
   ·simp only [List.mem_cons]
theorem rise_ins {s : B} {d : List B} (h : Rise d) : Rise (ins s d) := by
 induction d with
 | nil => simp [ins, Rise]
 | cons y r ih =>
  have h' := rise_cons.1 h
  unfold ins
  split
  ·rename_i hl
   rw [rise_cons]
   refine ⟨fun z hz => ?_, ih h'.2⟩
   rcases (mem_ins s z r).1 hz with rfl | hz
   ·exact hl
   ·exact h'.1 z hz
  ·split
   ·exact h
   ·rename_i hl hne
    rw [rise_cons]
    refine ⟨fun z hz => ?_, h⟩
    have hsy : lt s y = true := by
     rcases ge_iff (Bool.eq_false_iff.2 hl) with h1 | h1
     ·exact absurd h1 hne
     ·exact h1
    rcases List.mem_cons.1 hz with rfl | hz
    ·exact hsy
    ·exact lt_trans hsy (h'.1 z hz)
/-- How many stand ahead of a text. -/
def pos (s : B) : List B → Nat
 | [] => 0
 | x :: r => if lt x s = true then pos s r + 1 else 0
theorem ins_len (s : B) (d : List B) : (ins s d).length ≤ d.length + 1 := by
 induction d with
 | nil => simp [ins]
 | cons x r ih => unfold ins; split <;> (try split) <;> simp <;> omega
/-- Where a text stands. -/
def idx (s : B) : List B → Option Nat
 | [] => none
 | x :: r => if x = s then some 0 else (idx s r).map (· + 1)
theorem rise_at {d : List B} (h : Rise d) {i j : Nat} {x y : B} (hx : d[i]? = some x) (hy : d[j]? = some y) (hij : i < j) : lt x y = true := by
 induction d generalizing i j with
 | nil => simp at hx
 | cons z r ih =>
  have h' := rise_cons.1 h
  cases j with
  | zero => omega
  | succ j =>
   cases i with
   | zero =>
    simp at hx
    subst hx
    exact h'.1 y (List.mem_of_getElem? (by simpa using hy))
   | succ i => exact ih h'.2 (by simpa using hx) (by simpa using hy) (by omega)
/-- Dictionaries of the same texts are one. -/
theorem rise_same {d e : List B} (hd : Rise d) (he : Rise e) (h : ∀ x, x ∈ d ↔ x ∈ e) : d = e := by
 induction d generalizing e with
 | nil =>
  cases e with
  | nil => rfl
  | cons y r => have := (h y).2 (by simp); simp at this
 | cons x r ih =>
  cases e with
  | nil => have := (h x).1 (by simp); simp at this
  | cons y t =>
   have hd' := rise_cons.1 hd
   have he' := rise_cons.1 he
   have hxy : x = y := by
    have h1 := (h x).1 (by simp)
    have h2 := (h y).2 (by simp)
    rcases List.mem_cons.1 h1 with h1 | h1
    ·exact h1
    ·rcases List.mem_cons.1 h2 with h2 | h2
     ·exact h2.symm
     ·have a := he'.1 x h1
      have b := lt_trans a (hd'.1 y h2)
      rw [lt_irrefl] at b
      cases b
   subst hxy
   rw [ih hd'.2 he'.2 (fun z => ?_)]
   constructor
   ·intro hz
    rcases List.mem_cons.1 ((h z).1 (by simp [hz])) with rfl | h1
    ·have := hd'.1 z hz; rw [lt_irrefl] at this; cases this
    ·exact h1
   ·intro hz
    rcases List.mem_cons.1 ((h z).2 (by simp [hz])) with rfl | h1
    ·have := he'.1 z hz; rw [lt_irrefl] at this; cases this
    ·exact h1
/-- The dictionary of some texts. -/
def bld (l : List B) : List B := l.foldl (fun d s => ins s d) []
theorem fold_mem (l d : List B) (x : B) : x ∈ l.foldl (fun d s => ins s d) d ↔ x ∈ l ∨ x ∈ d := by
 induction l generalizing d with
 | nil => simp
 | cons s l ih =>
  rw [List.foldl_cons, ih, mem_ins, List.mem_cons]
  constructor
  ·rintro (h | h | h)
   ·exact .inl (.inr h)
   ·exact .inl (.inl h)
   ·exact .inr h
  ·rintro ((h | h) | h)
   ·exact .inr (.inl h)
   ·exact .inl h
   ·exact .inr (.inr h)
theorem fold_rise (l d : List B) (h : Rise d) : Rise (l.foldl (fun d s => ins s d) d) := by
 induction l generalizing d with
 | nil => exact h
 | cons s l ih => exact ih _ (rise_ins h)
theorem fold_len (l d : List B) : (l.foldl (fun d s => ins s d) d).length ≤ d.length + l.length := by
 induction l generalizing d with
 | nil => simp
 | cons s l ih => rw [List.foldl_cons]; have h1 := ih (ins s d); have h2 := ins_len s d; simp only [List.length_cons]; omega
theorem mem_bld (l : List B) (x : B) : x ∈ bld l ↔ x ∈ l := by rw [bld, fold_mem]; simp
theorem rise_bld (l : List B) : Rise (bld l) := fold_rise l [] Rise.nil
theorem bld_len (l : List B) : (bld l).length ≤ l.length := by have := fold_len l []; simpa [bld] using this
def place (d : List B) (s : B) : Nat := (idx s d).getD 0
/-- A text begins so. -/
def begins (p x : B) : Bool := decide (p.length ≤ x.length) && decide (x.take p.length = p)
theorem begins_iff (p x : B) : begins p x = true ↔ ∃ r, x = p ++ r := by
 unfold begins
 simp only [Bool.and_eq_true, decide_eq_true_eq]
 constructor
 ·rintro ⟨_, h⟩
  have h2 := List.take_append_drop p.length x
  rw [h] at h2
  exact ⟨x.drop p.length, h2.symm⟩
 ·rintro ⟨r, rfl⟩; simp
theorem begins_nil (x : B) : begins [] x = true := (begins_iff _ _).2 ⟨x, rfl⟩
/-- How many of the first ones begin so. -/
def run (p : B) : List B → Nat
 | [] => 0
 | x :: r => if begins p x = true then run p r + 1 else 0
theorem run_nil (d : List B) : run [] d = d.length := by
 induction d with
 | nil => rfl
 | cons x r ih => simp [run, begins_nil, ih]
end Go.Proofs.Ytibnhjfeepdddaa.T
namespace Go.Proofs.Ytibnhjfeepdddaa.T

def ptext (s : B) : List UInt8 := M.digs s.length ++ s
def texts (d : List B) : List UInt8 := d.flatMap ptext
def enc (d : List B) : List UInt8 := M.digs d.length ++ texts d
def fits (d : List B) : Bool := d.all (fun s => decide (s.length ≤ 40)) && (decide (d.length ≤ 16) && adj d)
/-- n texts from place k on, behind those that are read. -/
def rd (b : List UInt8) : Nat → Nat → List B → List B × Nat × Nat
 | 0, k, o => (o, k, 0)
 | n + 1, k, o => if (M.getText b k 40).2.2 ≠ 0 then ([], 0, (M.getText b k 40).2.2) else rd b n (M.getText b k 40).2.1 (o ++ [(M.getText b k 40).1])
end Go.Proofs.Ytibnhjfeepdddaa.T
namespace Go.Proofs.Ytibnhjfeepdddaa.I
open Go

theorem w64 (n : Int) : IntKind.u64.wrap n = n % 18446744073709551616 := by simp [IntKind.wrap, IntKind.bits, IntKind.signed]
theorem wraps64 (n : Int) (h₀ : 0 ≤ n) (h₁ : n < 2 ^ 64) : IntKind.u64.wrap n = n := by rw [w64]; omega
theorem ret_int {k : IntKind} {a b : Int} (h : a = b) : Ending.returned (.int k a) = .returned (.int k b) := by rw [h]
theorem ret_bool {a b : Bool} (h : a = b) : Ending.returned (.bool a) = .returned (.bool b) := by rw [h]
theorem int_num {k : IntKind} {a b : Int} (h : a = b) : Value.int k a = Value.int k b := by rw [h]
end Go.Proofs.Ytibnhjfeepdddaa.I
