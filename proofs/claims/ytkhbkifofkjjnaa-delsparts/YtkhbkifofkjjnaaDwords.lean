/-
  Plain facts: the ones of a number of 64 places, by halves; marks in words of 64. No program here.
-/
import Derived.Lib.BitFns
import Derived.Test.YtkhbkifofkjjnaaDels
namespace Go.Proofs.Ytkhbkifofkjjnaa.Pc
set_option linter.unusedVariables false
/-- Bytes, the least first, as a number. -/
def val : List Nat → Nat
  | [] => 0
  | b :: l => b + 256 * val l
theorem and_cons (a b m n : Nat) (ha : a < 256) (hm : m < 256) : (a + 256 * b) &&& (m + 256 * n) = (a &&& m) + 256 * (b &&& n) := by
  have h1 := Nat.and_div_two_pow (a := a + 256 * b) (b := m + 256 * n) (n := 8)
  have h2 := Nat.and_mod_two_pow (a := a + 256 * b) (b := m + 256 * n) (n := 8)
  have e1 : (a + 256 * b) / 2 ^ 8 = b := by omega
  have e2 : (m + 256 * n) / 2 ^ 8 = n := by omega
  have e3 : (a + 256 * b) % 2 ^ 8 = a := by omega
  have e4 : (m + 256 * n) % 2 ^ 8 = m := by omega
  rw [e1, e2] at h1
  rw [e3, e4] at h2
  omega
def g1 (b : Nat) : Nat := (b / 2 &&& 85) + (b &&& 85)
def g2 (b : Nat) : Nat := (b / 4 &&& 51) + (b &&& 51)
def g3 (b : Nat) : Nat := (b / 16 + b) % 16
def rep (m : Nat) (l : List Nat) : Nat := val (l.map fun _ => m)
theorem b1 : ∀ b : Fin 256, (b.val &&& 85) = (b.val % 128 &&& 85) := by decide +kernel
theorem b2 : ∀ b : Fin 256, (b.val &&& 51) = (b.val % 64 &&& 51) := by decide +kernel
theorem b3 : ∀ b : Fin 256, (b.val &&& 15) = b.val % 16 := by decide +kernel
theorem one : ∀ b : Fin 256, g3 (g2 (g1 b.val)) = Lib.onesCount b.val := by decide +kernel
theorem g1_le : ∀ b : Fin 256, g1 b.val ≤ 170 := by decide +kernel
theorem g2_le : ∀ b : Fin 256, g2 b.val ≤ 102 := by decide +kernel
theorem g2_lo : ∀ b : Fin 256, g2 (g1 b.val) % 16 ≤ 4 ∧ g2 (g1 b.val) / 16 ≤ 4 := by decide +kernel
theorem step1 : ∀ l : List Nat, (∀ b ∈ l, b < 256) → (val l / 2 &&& rep 85 l) + (val l &&& rep 85 l) = val (l.map g1)
  | [], _ => rfl
  | b :: l, h => by
    have hb : b < 256 := h b (by simp)
    have ih := step1 l (fun x hx => h x (by simp [hx]))
    simp only [val, rep, List.map_cons] at ih ⊢
    have e : (b + 256 * val l) / 2 = (b / 2 + 128 * (val l % 2)) + 256 * (val l / 2) := by omega
    have hlt : b / 2 + 128 * (val l % 2) < 256 := by omega
    rw [e, and_cons _ _ _ _ hlt (by omega), and_cons _ _ _ _ hb (by omega)]
    have c := b1 ⟨_, hlt⟩
    simp only at c
    rw [c, show (b / 2 + 128 * (val l % 2)) % 128 = b / 2 by omega]
    simp only [g1]
    omega
theorem step2 : ∀ l : List Nat, (∀ b ∈ l, b < 256) → (val l / 4 &&& rep 51 l) + (val l &&& rep 51 l) = val (l.map g2)
  | [], _ => rfl
  | b :: l, h => by
    have hb : b < 256 := h b (by simp)
    have ih := step2 l (fun x hx => h x (by simp [hx]))
    simp only [val, rep, List.map_cons] at ih ⊢
    have e : (b + 256 * val l) / 4 = (b / 4 + 64 * (val l % 4)) + 256 * (val l / 4) := by omega
    have hlt : b / 4 + 64 * (val l % 4) < 256 := by omega
    rw [e, and_cons _ _ _ _ hlt (by omega), and_cons _ _ _ _ hb (by omega)]
    have c := b2 ⟨_, hlt⟩
    simp only at c
    rw [c, show (b / 4 + 64 * (val l % 4)) % 64 = b / 4 by omega]
    simp only [g2]
    omega
/-- Both halves of each byte are at most four. -/
def lo4 (b : Nat) : Prop := b < 256 ∧ b % 16 ≤ 4 ∧ b / 16 ≤ 4
theorem step3 : ∀ l : List Nat, (∀ b ∈ l, lo4 b) → ((val l / 16 + val l) &&& rep 15 l) = val (l.map g3) ∧ val l % 16 ≤ 4
  | [], _ => ⟨rfl, by simp [val]⟩
  | b :: l, h => by
    obtain ⟨h1, h2, h3⟩ := h b (by simp)
    obtain ⟨ih, hl⟩ := step3 l (fun x hx => h x (by simp [hx]))
    simp only [val, rep, List.map_cons] at ih ⊢
    refine ⟨?_, by omega⟩
    have e : (b + 256 * val l) / 16 + (b + 256 * val l) = (b / 16 + b + 16 * (val l % 16)) + 256 * (val l / 16 + val l) := by omega
    have hlt : b / 16 + b + 16 * (val l % 16) < 256 := by omega
    rw [e, and_cons _ _ _ _ hlt (by omega), ih]
    have c := b3 ⟨_, hlt⟩
    simp only at c
    rw [c]
    simp only [g3]
    omega
theorem pop_fuel : ∀ (f x : Nat), x < 2 ^ f → ∀ g, f ≤ g → Lib.popAux g x = Lib.popAux f x
  | 0, x, hx, g, _ => by
    have : x = 0 := by simpa using hx
    subst this
    clear hx
    induction g with
    | zero => rfl
    | succ g ih => have := ih (by omega); simp only [Lib.popAux] at this ⊢; simpa using this
  | f + 1, x, hx, g, hg => by
    obtain ⟨g', rfl⟩ : ∃ g', g = g' + 1 := ⟨g - 1, by omega⟩
    simp only [Lib.popAux]
    rw [pop_fuel f (x / 2) (by rw [Nat.pow_succ] at hx; omega) g' (by omega)]
theorem pop_cut : ∀ (k f b x : Nat), b < 2 ^ k → Lib.popAux (k + f) (b + 2 ^ k * x) = Lib.popAux k b + Lib.popAux f x
  | 0, f, b, x, hb => by
    have : b = 0 := by simpa using hb
    subst this
    simp [Lib.popAux]
  | k + 1, f, b, x, hb => by
    rw [show k + 1 + f = (k + f) + 1 by omega]
    simp only [Lib.popAux]
    have e : (b + 2 ^ (k + 1) * x) / 2 = b / 2 + 2 ^ k * x := by rw [Nat.pow_succ, Nat.mul_comm (2 ^ k) 2, Nat.mul_assoc]; omega
    have e2 : (b + 2 ^ (k + 1) * x) % 2 = b % 2 := by rw [Nat.pow_succ, Nat.mul_comm (2 ^ k) 2, Nat.mul_assoc]; omega
    rw [e, e2, pop_cut k f (b / 2) x (by rw [Nat.pow_succ] at hb; omega)]
    omega
theorem pop_val : ∀ l : List Nat, (∀ b ∈ l, b < 256) → Lib.popAux (8 * l.length) (val l) = (l.map (fun b => g3 (g2 (g1 b)))).sum
  | [], _ => rfl
  | b :: l, h => by
    have hb : b < 256 := h b (by simp)
    have ih := pop_val l (fun x hx => h x (by simp [hx]))
    rw [show 8 * (b :: l).length = 8 + 8 * l.length by simp; omega, val, show 256 = 2 ^ 8 from rfl, pop_cut 8 _ b _ (by omega), ih]
    have c := one ⟨b, hb⟩
    simp only at c
    rw [List.map_cons, List.sum_cons, c, Lib.onesCount, pop_fuel 8 b (by omega) 64 (by omega)]
/-- The eight bytes. -/
def bys (x : Nat) : List Nat := [x % 256, x / 256 % 256, x / 65536 % 256, x / 16777216 % 256, x / 4294967296 % 256, x / 1099511627776 % 256, x / 281474976710656 % 256, x / 72057594037927936 % 256]
theorem bys_lt (x : Nat) : ∀ b ∈ bys x, b < 256 := by
  intro b hb
  simp only [bys, List.mem_cons, List.not_mem_nil, or_false] at hb
  rcases hb with rfl | rfl | rfl | rfl | rfl | rfl | rfl | rfl <;> exact Nat.mod_lt _ (by omega)
theorem bys_val {x : Nat} (h : x < 18446744073709551616) : val (bys x) = x := by
  simp only [val, bys]
  omega
theorem rep_bys (m x : Nat) : rep m (bys x) = m * 72340172838076673 := by
  simp only [rep, bys, List.map_cons, List.map_nil, val]
  omega
theorem rep_map (m : Nat) (f : Nat → Nat) (l : List Nat) : rep m (l.map f) = rep m l := by simp [rep, Function.comp_def]
theorem val_le (c : Nat) : ∀ l : List Nat, (∀ b ∈ l, b ≤ c) → val l ≤ rep c l
  | [], _ => by simp [val, rep]
  | b :: l, h => by
    have h1 := h b (by simp)
    have h2 := val_le c l (fun x hx => h x (by simp [hx]))
    simp only [val, rep, List.map_cons] at h2 ⊢
    omega
/-- OnesCount64's own reckoning. -/
def y1 (x : Nat) : Nat := (x / 2 &&& 6148914691236517205) + (x &&& 6148914691236517205)
def y2 (x : Nat) : Nat := (y1 x / 4 &&& 3689348814741910323) + (y1 x &&& 3689348814741910323)
def y3 (x : Nat) : Nat := (y2 x / 16 + y2 x) &&& 1085102592571150095
def y4 (x : Nat) : Nat := y3 x + y3 x / 256
def y5 (x : Nat) : Nat := y4 x + y4 x / 65536
def y6 (x : Nat) : Nat := y5 x + y5 x / 4294967296
theorem y1_is {x : Nat} (h : x < 18446744073709551616) : y1 x = val ((bys x).map g1) := by
  have s := step1 (bys x) (bys_lt x)
  rw [bys_val h, rep_bys] at s
  exact s
theorem y2_is {x : Nat} (h : x < 18446744073709551616) : y2 x = val (((bys x).map g1).map g2) := by
  have s := step2 ((bys x).map g1) (fun b hb => by
    obtain ⟨c, hc, rfl⟩ := List.mem_map.1 hb
    have := g1_le ⟨c, bys_lt x c hc⟩
    simp only at this
    omega)
  rw [← y1_is h, rep_map, rep_bys] at s
  exact s
theorem y3_is {x : Nat} (h : x < 18446744073709551616) : y3 x = val ((bys x).map (fun b => g3 (g2 (g1 b)))) ∧ y2 x / 16 + y2 x < 18446744073709551616 := by
  have hlo : ∀ b ∈ ((bys x).map g1).map g2, lo4 b := fun b hb => by
    obtain ⟨d, hd, rfl⟩ := List.mem_map.1 hb
    obtain ⟨c, hc, rfl⟩ := List.mem_map.1 hd
    have := g2_lo ⟨c, bys_lt x c hc⟩
    have k := g1_le ⟨c, bys_lt x c hc⟩
    simp only at this k
    have k2 := g2_le ⟨g1 c, by omega⟩
    simp only at k2
    exact ⟨by omega, this.1, this.2⟩
  have s := (step3 (((bys x).map g1).map g2) hlo).1
  rw [← y2_is h, rep_map, rep_map, rep_bys] at s
  refine ⟨?_, ?_⟩
  · rw [show (bys x).map (fun b => g3 (g2 (g1 b))) = (((bys x).map g1).map g2).map g3 by simp]
    exact s
  · have v := val_le 68 (((bys x).map g1).map g2) (fun b hb => by obtain ⟨h1, h2, h3⟩ := hlo b hb; omega)
    rw [← y2_is h, rep_map, rep_map, rep_bys] at v
    omega
theorem pop_le (x : Nat) (h : x < 256) : g3 (g2 (g1 x)) ≤ 8 := by
  have c := one ⟨x, h⟩
  have d := Lib.onesCount_le8 ⟨x, h⟩
  simp only at c d
  omega
theorem div256 (Y a T : Nat) (h : Y = a + 256 * T) (ha : a < 256) : Y / 256 = T := by omega
theorem div16 (Y a T : Nat) (h : Y = a + 65536 * T) (ha : a < 65536) : Y / 65536 = T := by omega
theorem div32 (Y a T : Nat) (h : Y = a + 4294967296 * T) (ha : a < 4294967296) : Y / 4294967296 = T := by omega
theorem mod7 (V a T : Nat) (h : V = a + 256 * T) (ha : a < 128) : V % 128 = a := by omega
theorem sum8 (s0 s1 s2 s3 s4 s5 s6 s7 Y : Nat) (hs : Y = s0 + 256 * (s1 + 256 * (s2 + 256 * (s3 + 256 * (s4 + 256 * (s5 + 256 * (s6 + 256 * (s7 + 256 * 0)))))))) (l0 : s0 ≤ 8) (l1 : s1 ≤ 8) (l2 : s2 ≤ 8) (l3 : s3 ≤ 8) (l4 : s4 ≤ 8) (l5 : s5 ≤ 8) (l6 : s6 ≤ 8) (l7 : s7 ≤ 8) :
    (Y + Y / 256 + (Y + Y / 256) / 65536 + (Y + Y / 256 + (Y + Y / 256) / 65536) / 4294967296) % 128 = s0 + s1 + s2 + s3 + s4 + s5 + s6 + s7 ∧ Y + Y / 256 + (Y + Y / 256) / 65536 + (Y + Y / 256 + (Y + Y / 256) / 65536) / 4294967296 < 9223372036854775808 := by
  have d1 := div256 Y s0 _ hs (by omega)
  rw [d1]
  have d2 := div16 (Y + (s1 + 256 * (s2 + 256 * (s3 + 256 * (s4 + 256 * (s5 + 256 * (s6 + 256 * (s7 + 256 * 0)))))))) ((s0 + s1) + 256 * (s1 + s2)) ((s2 + s3) + 256 * (s3 + s4) + 65536 * (s4 + s5) + 16777216 * (s5 + s6) + 4294967296 * (s6 + s7) + 1099511627776 * s7) (by rw [hs]; clear hs d1; omega) (by clear hs d1; omega)
  rw [d2]
  have d3 := div32 (Y + (s1 + 256 * (s2 + 256 * (s3 + 256 * (s4 + 256 * (s5 + 256 * (s6 + 256 * (s7 + 256 * 0))))))) + ((s2 + s3) + 256 * (s3 + s4) + 65536 * (s4 + s5) + 16777216 * (s5 + s6) + 4294967296 * (s6 + s7) + 1099511627776 * s7)) ((s0 + s1 + s2 + s3) + 256 * (s1 + s2 + s3 + s4) + 65536 * (s2 + s3 + s4 + s5) + 16777216 * (s3 + s4 + s5 + s6)) ((s4 + s5 + s6 + s7) + 256 * (s5 + s6 + s7) + 65536 * (s6 + s7) + 16777216 * s7) (by rw [hs]; clear hs d1 d2; omega) (by clear hs d1 d2; omega)
  rw [d3]
  clear d1 d2 d3
  refine ⟨mod7 _ _ ((s1 + s2 + s3 + s4) + 256 * (s2 + s3 + s4 + s5) + 65536 * (s3 + s4 + s5 + s6) + 16777216 * (s4 + s5 + s6 + s7) + 4294967296 * (s5 + s6 + s7) + 1099511627776 * (s6 + s7) + 281474976710656 * s7 + ((s5 + s6 + s7) + 256 * (s6 + s7) + 65536 * s7)) (by rw [hs]; clear hs; omega) (by clear hs; omega), by rw [hs]; clear hs; omega⟩
theorem y6_is {x : Nat} (h : x < 18446744073709551616) : y6 x % 128 = Lib.onesCount x ∧ y6 x < 9223372036854775808 ∧ y5 x ≤ y6 x ∧ y4 x ≤ y5 x ∧ y3 x ≤ y4 x ∧ y2 x < 18446744073709551616 ∧ y1 x < 18446744073709551616 ∧ Lib.onesCount x ≤ 64 := by
  have hs := (y3_is h).1
  have hl : ∀ b ∈ (bys x).map (fun b => g3 (g2 (g1 b))), b ≤ 8 := fun b hb => by
    obtain ⟨c, hc, rfl⟩ := List.mem_map.1 hb
    exact pop_le c (bys_lt x c hc)
  have hp := pop_val (bys x) (bys_lt x)
  rw [bys_val h] at hp
  have hp' : Lib.onesCount x = ((bys x).map (fun b => g3 (g2 (g1 b)))).sum := hp
  have hy2 := (y3_is h).2
  have hy1 : y1 x < 18446744073709551616 := by
    have v := val_le 170 ((bys x).map g1) (fun b hb => by
      obtain ⟨c, hc, rfl⟩ := List.mem_map.1 hb
      exact g1_le ⟨c, bys_lt x c hc⟩)
    rw [← y1_is h, rep_map, rep_bys] at v
    omega
  simp only [bys, List.map_cons, List.map_nil, List.mem_cons, List.not_mem_nil, or_false, forall_eq_or_imp, forall_eq] at hl
  simp only [bys, List.map_cons, List.map_nil, val] at hs
  simp only [bys, List.map_cons, List.map_nil, List.sum_cons, List.sum_nil] at hp'
  have hy2' : y2 x < 18446744073709551616 := by omega
  unfold y6 y5 y4
  clear hp hy2
  generalize y3 x = Y at *
  generalize g3 (g2 (g1 (x % 256))) = s0 at *
  generalize g3 (g2 (g1 (x / 256 % 256))) = s1 at *
  generalize g3 (g2 (g1 (x / 65536 % 256))) = s2 at *
  generalize g3 (g2 (g1 (x / 16777216 % 256))) = s3 at *
  generalize g3 (g2 (g1 (x / 4294967296 % 256))) = s4 at *
  generalize g3 (g2 (g1 (x / 1099511627776 % 256))) = s5 at *
  generalize g3 (g2 (g1 (x / 281474976710656 % 256))) = s6 at *
  generalize g3 (g2 (g1 (x / 72057594037927936 % 256))) = s7 at *
  obtain ⟨l0, l1, l2, l3, l4, l5, l6, l7⟩ := hl
  have r := sum8 s0 s1 s2 s3 s4 s5 s6 s7 Y hs l0 l1 l2 l3 l4 l5 l6 l7
  refine ⟨by rw [r.1, hp']; omega, r.2, by omega, by omega, by omega, hy2', hy1, by rw [hp']; omega⟩
end Go.Proofs.Ytkhbkifofkjjnaa.Pc
namespace Go.Proofs.Ytkhbkifofkjjnaa.Dl
open Go.Proofs.Ytkhbkifofkjjnaa
set_option linter.unusedVariables false
/-- The words us hold the marks ws, and nothing behind them. -/
def Wd (us : List Nat) (ws : List Bool) : Prop :=
  us.length = (ws.length + 63) / 64 ∧ (∀ x ∈ us, x < 18446744073709551616) ∧ ∀ j k, k < 64 → (us.getD j 0).testBit k = ws.getD (64 * j + k) false
theorem wd_new (n : Nat) : Wd (List.replicate ((n + 63) / 64) 0) (List.replicate n false) := by
  refine ⟨by simp, fun x hx => by rw [(List.mem_replicate.1 hx).2]; omega, fun j k hk => ?_⟩
  have h1 : (List.replicate ((n + 63) / 64) 0).getD j 0 = 0 := by
    rw [List.getD_eq_getElem?_getD, List.getElem?_replicate]; split <;> rfl
  have h2 : (List.replicate n false).getD (64 * j + k) false = false := by
    rw [List.getD_eq_getElem?_getD, List.getElem?_replicate]; split <;> rfl
  rw [h1, h2, Nat.zero_testBit]
theorem wd_lt {us : List Nat} {ws : List Bool} (h : Wd us ws) {k : Nat} (hk : k < ws.length) : k / 64 < us.length := by
  rw [h.1]; omega
theorem wd_at {us : List Nat} {ws : List Bool} (h : Wd us ws) (k : Nat) : (us.getD (k / 64) 0).testBit (k % 64) = ws.getD k false := by
  rw [h.2.2 (k / 64) (k % 64) (by omega)]
  congr 1
  omega
theorem wd_word {us : List Nat} {ws : List Bool} (h : Wd us ws) (j : Nat) : us.getD j 0 < 18446744073709551616 := by
  rw [List.getD_eq_getElem?_getD]
  by_cases hj : j < us.length
  · rw [List.getElem?_eq_getElem hj]; exact h.2.1 _ (List.getElem_mem hj)
  · rw [List.getElem?_eq_none (by omega)]; simp
theorem mask_zero (B r : Nat) : B &&& 2 ^ r = 0 ↔ B.testBit r = false := by
  constructor
  · intro h
    have h1 := congrArg (fun x => Nat.testBit x r) h
    simpa [Nat.testBit_and, Nat.testBit_two_pow] using h1
  · intro h
    apply Nat.eq_of_testBit_eq
    intro i
    rw [Nat.testBit_and, Nat.testBit_two_pow, Nat.zero_testBit]
    by_cases hi : r = i
    · subst hi; simp [h]
    · simp [hi]
theorem wd_has {us : List Nat} {ws : List Bool} (h : Wd us ws) (k : Nat) : (us.getD (k / 64) 0 &&& 2 ^ (k % 64)) = 0 ↔ ws.getD k false = false := by
  rw [← wd_at h k]
  exact mask_zero _ _
theorem pow64 {k : Nat} (h : k < 64) : 2 ^ k < 18446744073709551616 := by
  have := Nat.pow_lt_pow_right (a := 2) (by omega) h
  omega
theorem or64 {a b : Nat} (ha : a < 18446744073709551616) (hb : b < 18446744073709551616) : a ||| b < 18446744073709551616 := Nat.or_lt_two_pow (n := 64) ha hb
theorem wd_set {us : List Nat} {ws : List Bool} (h : Wd us ws) {k : Nat} (hk : k < ws.length) : Wd (us.set (k / 64) (us.getD (k / 64) 0 ||| 2 ^ (k % 64))) (ws.set k true) := by
  have hl := wd_lt h hk
  refine ⟨by rw [List.length_set, List.length_set]; exact h.1, fun x hx => ?_, fun j i hi => ?_⟩
  · rcases List.mem_or_eq_of_mem_set hx with hx | rfl
    · exact h.2.1 x hx
    · exact or64 (wd_word h _) (pow64 (by omega))
  · have hw := h.2.2 j i hi
    simp only [List.getD_eq_getElem?_getD] at hw ⊢
    rw [List.getElem?_set, List.getElem?_set]
    by_cases hj : k / 64 = j
    · subst hj
      rw [if_pos rfl, if_pos hl]
      simp only [Option.getD_some]
      rw [Nat.testBit_or, Nat.testBit_two_pow, hw]
      by_cases hi2 : k % 64 = i
      · rw [if_pos (by omega), if_pos hk]; simp [hi2]
      · rw [if_neg (by omega)]; simp [hi2]
    · rw [if_neg hj, if_neg (by omega)]
      exact hw
theorem wd_or {us vs L : List Nat} {ws os : List Bool} (h : Wd us ws) (ho : Wd vs os) (hn : ws.length = os.length) (hl : L.length = us.length) (hL : ∀ j, j < us.length → L.getD j 0 = us.getD j 0 ||| vs.getD j 0) : Wd L (orr ws os) := by
  have hol := orr_len hn
  have hall : ∀ j, L.getD j 0 = us.getD j 0 ||| vs.getD j 0 := fun j => by
    by_cases hj : j < us.length
    · exact hL j hj
    · have hv : vs.length = us.length := by rw [ho.1, h.1, hn]
      rw [List.getD_eq_getElem?_getD, List.getD_eq_getElem?_getD, List.getD_eq_getElem?_getD, List.getElem?_eq_none (by omega), List.getElem?_eq_none (by omega), List.getElem?_eq_none (by omega)]
      rfl
  refine ⟨by rw [hl, hol]; exact h.1, fun x hx => ?_, fun j k hk => ?_⟩
  · obtain ⟨j, hj, rfl⟩ := List.mem_iff_getElem.1 hx
    have e := hall j
    rw [List.getD_eq_getElem?_getD, List.getElem?_eq_getElem hj] at e
    simp only [Option.getD_some] at e
    rw [e]
    exact or64 (wd_word h j) (wd_word ho j)
  · rw [hall j, Nat.testBit_or, h.2.2 j k hk, ho.2.2 j k hk]
    unfold orr
    rw [List.getD_eq_getElem?_getD, List.getD_eq_getElem?_getD, List.getD_eq_getElem?_getD, List.getElem?_zipWith]
    by_cases hq : 64 * j + k < ws.length
    · rw [List.getElem?_eq_getElem hq, List.getElem?_eq_getElem (show 64 * j + k < os.length by omega)]
      rfl
    · rw [List.getElem?_eq_none (by omega), List.getElem?_eq_none (show os.length ≤ 64 * j + k by omega)]
      rfl
theorem pop_count : ∀ (f x : Nat) (ws : List Bool), (∀ k, k < f → x.testBit k = ws.getD k false) → Lib.popAux f x = count (ws.take f)
  | 0, x, ws, _ => by simp [Lib.popAux, count]
  | f + 1, x, ws, h => by
    have h0 := h 0 (by omega)
    have hs : ∀ k, k < f → (x / 2).testBit k = ws.tail.getD k false := fun k hk => by
      rw [← Nat.testBit_succ, h (k + 1) (by omega)]
      cases ws <;> simp
    have ih := pop_count f (x / 2) ws.tail hs
    rw [Lib.popAux, ih]
    rw [Nat.testBit_zero] at h0
    cases ws with
    | nil =>
      simp at h0
      simp [count]; omega
    | cons b r =>
      simp only [List.tail_cons, List.take_succ_cons, List.getD_cons_zero] at h0 ⊢
      have : count (b :: r.take f) = bw b + count (r.take f) := by
        unfold count
        cases b <;> simp [bw]; omega
      rw [this, ← h0]
      by_cases hx : x % 2 = 1
      · simp [bw, hx]
      · simp [bw, hx]; omega
theorem wd_count : ∀ (us : List Nat) (ws : List Bool), Wd us ws → (us.map Lib.onesCount).sum = count ws
  | [], ws, h => by
    have : ws = [] := List.length_eq_zero_iff.1 (by have := h.1; simp at this; omega)
    subst this
    rfl
  | u :: us, ws, h => by
    have hs : Wd us (ws.drop 64) := by
      refine ⟨by have := h.1; simp at this ⊢; omega, fun x hx => h.2.1 x (by simp [hx]), fun j k hk => ?_⟩
      have := h.2.2 (j + 1) k hk
      rw [List.getD_cons_succ] at this
      rw [this, List.getD_eq_getElem?_getD, List.getD_eq_getElem?_getD, List.getElem?_drop]
      congr 2
      omega
    have ih := wd_count us (ws.drop 64) hs
    have hp := pop_count 64 u ws (fun k hk => by have := h.2.2 0 k hk; simpa using this)
    rw [List.map_cons, List.sum_cons, ih, Lib.onesCount, hp]
    unfold count
    rw [← List.countP_append, List.take_append_drop]
end Go.Proofs.Ytkhbkifofkjjnaa.Dl
