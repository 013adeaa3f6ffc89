/-
  Plain facts on predicates: cut ones, how great they are, Nots one about the other, Kids side by side. No program here.
-/
import Derived.Test.YtbdjccmlgdfapaaPwrit
namespace Go.Proofs.Ytbdjccmlgdfapaa
set_option linter.unusedVariables false
set_option linter.unusedSimpArgs false
namespace Pd
/-- A predicate that is not too deep or wide. -/
def cutH (h : Hd) : Hd := ⟨h.k, h.col.take 20, h.n, h.m, h.s.take 41, (h.set.take 9).map fun s => s.take 41⟩
def cut : Pr → Nat → Pr := rec' fun h l a d => Pr.mk' (cutH h) (if d = 0 then [] else (a.take 4).map fun x => x (d - 1))
theorem cut_mk (h : Hd) (l : List Pr) (d : Nat) : cut (Pr.mk' h l) d = Pr.mk' (cutH h) (if d = 0 then [] else (l.take 4).map fun x => cut x (d - 1)) := by
  rw [cut, rec_mk]
  congr 1
  split
  · rfl
  · rw [← List.map_take, List.map_map]
    rfl
theorem mem_take {α : Type} {l : List α} {n : Nat} {x : α} (h : x ∈ l.take n) : x ∈ l := (List.take_subset n l) h
theorem foldr_le {l : List Nat} {n : Nat} (h : ∀ x ∈ l, x ≤ n) : l.foldr max 0 ≤ n := by
  induction l with
  | nil => simp
  | cons y t ih =>
    rw [List.foldr_cons]
    have h1 := h y (by simp)
    have h2 := ih fun x hx => h x (by simp [hx])
    omega
theorem cut_deep : ∀ p d, deep (cut p d) ≤ d + 1 := by
  refine tree ?_
  intro h l ih d
  rw [cut_mk, deep_mk]
  split
  · simp
  · rename_i hd
    have : ((List.map (fun x => cut x (d - 1)) (l.take 4)).map deep).foldr max 0 ≤ d := by
      refine foldr_le ?_
      intro x hx
      rw [List.map_map] at hx
      obtain ⟨y, hy, rfl⟩ := List.mem_map.1 hx
      have := ih y (mem_take hy) (d - 1)
      simp only [Function.comp]
      omega
    omega
theorem sum_le {l : List Nat} {n : Nat} (h : ∀ x ∈ l, x ≤ n) : l.sum ≤ l.length * n := by
  induction l with
  | nil => simp
  | cons y t ih =>
    rw [List.sum_cons, List.length_cons]
    have h1 := h y (by simp)
    have h2 := ih fun x hx => h x (by simp [hx])
    rw [Nat.add_mul]
    omega
/-- So many parts at most. -/
def most : Nat → Nat
  | 0 => 1
  | d + 1 => 1 + 4 * most d
theorem cut_size : ∀ p d, size (cut p d) ≤ most d := by
  refine tree ?_
  intro h l ih d
  rw [cut_mk, size_mk]
  cases d with
  | zero => simp [most]
  | succ d =>
    rw [if_neg (by omega), List.map_map, most]
    have h1 : ((l.take 4).map (size ∘ fun x => cut x (d + 1 - 1))).sum ≤ ((l.take 4).map (size ∘ fun x => cut x (d + 1 - 1))).length * most d := by
      refine sum_le ?_
      intro x hx
      obtain ⟨y, hy, rfl⟩ := List.mem_map.1 hx
      exact ih y (mem_take hy) d
    have h2 : ((l.take 4).map (size ∘ fun x => cut x (d + 1 - 1))).length ≤ 4 := by simp; omega
    have h3 := Nat.mul_le_mul_right (most d) h2
    omega
theorem cut_num : ∀ p d, num p → num (cut p d) := by
  refine tree ?_
  intro h l ih d hn
  rw [num_mk] at hn
  rw [cut_mk, num_mk]
  refine ⟨hn.1, ?_⟩
  split
  · simp
  · intro x hx
    obtain ⟨y, hy, rfl⟩ := List.mem_map.1 hx
    exact ih y (mem_take hy) (d - 1) (hn.2 y (mem_take hy))
/-- Nots about a predicate. -/
def nt (p : Pr) : Pr := Pr.mk' (hk 3) [p]
def ntN : Nat → Pr → Pr
  | 0, p => p
  | n + 1, p => nt (ntN n p)
theorem ntN_up (n : Nat) (p : Pr) : ntN n (nt p) = ntN (n + 1) p := by
  induction n with
  | zero => rfl
  | succ n ih => rw [ntN, ih]; rfl
theorem ev_nt (r : Rw) (p : Pr) : ev r (nt p) = !ev r p := by
  rw [nt, ev_mk]
  rfl
theorem deep_nt (p : Pr) : deep (nt p) = deep p + 1 := by rw [nt, deep_mk]; simp
theorem size_nt (p : Pr) : size (nt p) = size p + 1 := by rw [nt, size_mk]; simp; omega
theorem form_nt (p : Pr) : form (nt p) = form p := by
  rw [nt, form_mk, show [p].length = 1 from rfl, show part (hk 3) 1 = true from by decide]
  simp
theorem deep_ntN (n : Nat) (p : Pr) : deep (ntN n p) = deep p + n := by
  induction n with
  | zero => rfl
  | succ n ih => rw [ntN, deep_nt, ih]; omega
theorem size_ntN (n : Nat) (p : Pr) : size (ntN n p) = size p + n := by
  induction n with
  | zero => rfl
  | succ n ih => rw [ntN, size_nt, ih]; omega
theorem form_ntN (n : Nat) (p : Pr) : form (ntN n p) = form p := by
  induction n with
  | zero => rfl
  | succ n ih => rw [ntN, form_nt, ih]
def nullP (c : List UInt8) : Pr := Pr.mk' ⟨9, c, 0, 0, [], []⟩ []
theorem form_null {c : List UInt8} (h : Rw.name c = true) : form (nullP c) = true := by
  rw [nullP, form_mk]
  simp [part, h]
theorem size_null (c : List UInt8) : size (nullP c) = 1 := by rw [nullP, size_mk]; rfl
theorem deep_null (c : List UInt8) : deep (nullP c) = 1 := by rw [nullP, deep_mk]; rfl
/-- How deep may it be? -/
theorem right_ntN {c : List UInt8} (h : Rw.name c = true) (n : Nat) (hn : n ≤ 10) : right (ntN n (nullP c)) = decide (n + 1 ≤ 6) := by
  unfold right
  rw [deep_ntN, size_ntN, form_ntN, form_null h, size_null, deep_null, Bool.and_true, show decide (1 + n ≤ 40) = true from decide_eq_true (by omega), Bool.and_true]
  congr 1
  exact propext ⟨fun _ => by omega, fun _ => by omega⟩
/-- How many parts may it have? -/
def wide (c : List UInt8) (n : Nat) : Pr := Pr.mk' (hk 2) (List.replicate n (nullP c))
theorem size_wide (c : List UInt8) (n : Nat) : size (wide c n) = n + 1 := by
  rw [wide, size_mk, List.map_replicate, size_null]
  simp
  omega
theorem right_wide {c : List UInt8} (h : Rw.name c = true) (n : Nat) : right (wide c n) = decide (n + 1 ≤ 40) := by
  unfold right
  rw [size_wide]
  have h1 : deep (wide c n) ≤ 6 := by
    rw [wide, deep_mk]
    have : ((List.replicate n (nullP c)).map deep).foldr max 0 ≤ 1 := by
      refine foldr_le ?_
      intro x hx
      obtain ⟨y, hy, rfl⟩ := List.mem_map.1 hx
      rw [(List.mem_replicate.1 hy).2, deep_null]
      exact Nat.le_refl _
    omega
  have h2 : form (wide c n) = true := by
    rw [wide, form_mk, show ∀ m, part (hk 2) m = true from fun _ => rfl, Bool.true_and, List.all_eq_true]
    intro x hx
    rw [(List.mem_replicate.1 hx).2, form_null h]
  rw [h2, decide_eq_true h1]
  simp
/-- Two side by side. -/
theorem ev_all2 (r : Rw) (p q : Pr) : ev r (Pr.mk' (hk 1) [p, q]) = (ev r p && ev r q) := by
  rw [ev_mk, show (hk 1).k = 1 from rfl, if_pos rfl]; simp
theorem ev_any2 (r : Rw) (p q : Pr) : ev r (Pr.mk' (hk 2) [p, q]) = (ev r p || ev r q) := by
  rw [ev_mk, show (hk 2).k = 2 from rfl, if_neg (by decide), if_pos rfl]; simp
theorem not_both (r : Rw) (p q : Pr) : ev r (nt (Pr.mk' (hk 1) [p, q])) = ev r (Pr.mk' (hk 2) [nt p, nt q]) := by
  rw [ev_nt, ev_all2, ev_any2, ev_nt, ev_nt]
  cases ev r p <;> cases ev r q <;> rfl
/-- How many bytes. -/
theorem texts_le {d : List (List UInt8)} (h : ∀ s ∈ d, s.length ≤ 40) : (T.texts d).length ≤ d.length * 50 := by
  induction d with
  | nil => simp [T.texts]
  | cons s t ih =>
    have h1 := h s (by simp)
    have h2 := ih fun x hx => h x (by simp [hx])
    have h3 := M.digs_len s.length
    rw [T.texts_cons, List.length_append, T.ptext, List.length_append, List.length_cons, Nat.add_mul]
    omega
theorem encH_len {h : Hd} {n : Nat} (hp : part h n = true) : (encH h n).length ≤ 500 := by
  have z : ∀ x, (M.digs x).length ≤ 10 := fun x => (M.digs_len x).2
  have z1 := z h.k.toNat
  have z2 := z n
  have z3 := z (M.zig h.n).toNat
  have z4 := z (M.zig h.m).toNat
  have z5 := z h.set.length
  have z6 := z h.s.length
  have z7 := z h.col.length
  have hb : h.s.length ≤ 40 ∧ h.col.length ≤ 12 ∧ (T.texts h.set).length ≤ 400 := by
    rcases part_cases hp with ⟨K, hK, rfl⟩ | ⟨rfl, rfl⟩ | ⟨K, c, x, hK, hc, rfl, rfl⟩ | ⟨K, c, s, hK, hc, hs, rfl, rfl⟩ | ⟨c, t, hc, ht, ha, hs, rfl, rfl⟩ | ⟨c, hc, rfl, rfl⟩ | ⟨x, y, rfl, rfl⟩
    · exact ⟨by simp [hk], by simp [hk], by simp [hk, T.texts]⟩
    · exact ⟨by simp [hk], by simp [hk], by simp [hk, T.texts]⟩
    · exact ⟨by simp, name_len hc, by simp [T.texts]⟩
    · exact ⟨hs, name_len hc, by simp [T.texts]⟩
    · refine ⟨by simp, name_len hc, ?_⟩
      have := texts_le hs
      simp only
      omega
    · exact ⟨by simp, name_len hc, by simp [T.texts]⟩
    · exact ⟨by simp, by simp, by simp [T.texts]⟩
  obtain ⟨b1, b2, b3⟩ := hb
  unfold encH T.ptext
  rw [List.length_append]
  repeat' split
  all_goals first | omega | (simp only [List.length_append, List.length_nil]; omega)
theorem enc_len : ∀ p, form p = true → (enc p).length ≤ 500 * size p := by
  refine tree ?_
  intro h l ih hf
  rw [form_mk, Bool.and_eq_true, List.all_eq_true] at hf
  obtain ⟨hp, hl⟩ := hf
  have h1 := encH_len hp
  rw [enc_mk, size_mk, List.length_append]
  have : ((l.map enc).flatten).length ≤ 500 * (l.map size).sum := by
    clear hp h1
    induction l with
    | nil => simp
    | cons x t iht =>
      have a := ih x (by simp) (hl x (by simp))
      have b := iht (fun k hk => ih k (by simp [hk])) (fun k hk => hl k (by simp [hk]))
      rw [List.map_cons, List.flatten_cons, List.length_append, List.map_cons, List.sum_cons]
      omega
  omega
end Pd
end Go.Proofs.Ytbdjccmlgdfapaa
