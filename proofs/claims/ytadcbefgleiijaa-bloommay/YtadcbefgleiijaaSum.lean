/-
  Ytadcbefgleiijaa facts on sums of bytes: the CRC-32C bit by bit is linear, loses nothing, and tells bytes of which four that stand together are turned; FNV-1a grows byte by byte. No program here.
-/
namespace Go.Proofs.Ytadcbefgleiijaa.S

def poly : Nat := 0x82f63b78
/-- One bit. -/
def step (c : Nat) : Nat := if c % 2 = 1 then (c / 2) ^^^ poly else c / 2
def steps : Nat → Nat → Nat
  | 0, c => c
  | n + 1, c => steps n (step c)
/-- One byte. -/
def byte (c b : Nat) : Nat := steps 8 (c ^^^ b)
def run (c : Nat) (l : List UInt8) : Nat := l.foldl (fun c b => byte c b.toNat) c
theorem run_nil (c : Nat) : run c [] = c := by simp only [run, List.foldl_nil]
theorem run_cons (c : Nat) (b : UInt8) (r : List UInt8) : run c (b :: r) = run (byte c b.toNat) r := by simp only [run, List.foldl_cons]
def crc (l : List UInt8) : Nat := run 0xffffffff l ^^^ 0xffffffff

theorem xor_half (a b : Nat) : (a ^^^ b) / 2 = a / 2 ^^^ b / 2 := by
  have := Nat.shiftRight_xor_distrib (a := a) (b := b) (i := 1)
  simpa [Nat.shiftRight_succ] using this
theorem xor_odd (a b : Nat) : (a ^^^ b) % 2 = a % 2 ^^^ b % 2 := by
  have := Nat.xor_mod_two_pow (a := a) (b := b) (n := 1)
  simpa using this
theorem step_xor (a b : Nat) : step (a ^^^ b) = step a ^^^ step b := by
  unfold step
  rw [xor_odd, xor_half]
  have ha : a % 2 = 0 ∨ a % 2 = 1 := by omega
  have hb : b % 2 = 0 ∨ b % 2 = 1 := by omega
  rcases ha with ha | ha <;> rcases hb with hb | hb <;> simp [ha, hb]
  · rw [Nat.xor_assoc]
  · rw [Nat.xor_assoc, Nat.xor_comm (b / 2), ← Nat.xor_assoc]
  · rw [Nat.xor_assoc, ← Nat.xor_assoc poly, Nat.xor_comm poly (b / 2), Nat.xor_assoc (b / 2), Nat.xor_self, Nat.xor_zero]
theorem xlt {a b : Nat} (ha : a < 4294967296) (hb : b < 4294967296) : a ^^^ b < 4294967296 := by
  have h := Nat.xor_lt_two_pow (x := a) (y := b) (n := 32) (by omega) (by omega)
  omega
theorem step_zero : step 0 = 0 := rfl
theorem step_lt {c : Nat} (h : c < 4294967296) : step c < 4294967296 := by
  unfold step
  split
  · exact xlt (by omega) (by unfold poly; omega)
  · omega
theorem step_inj {c : Nat} (h : c < 4294967296) (hz : step c = 0) : c = 0 := by
  unfold step at hz
  split at hz
  · have e : c / 2 = poly := by
      have h1 : (c / 2 ^^^ poly) ^^^ poly = poly := by rw [hz]; simp
      rw [Nat.xor_assoc, Nat.xor_self, Nat.xor_zero] at h1
      exact h1
    unfold poly at e
    omega
  · omega

theorem steps_xor : ∀ (n a b : Nat), steps n (a ^^^ b) = steps n a ^^^ steps n b
  | 0, _, _ => rfl
  | n + 1, a, b => by simp only [steps]; rw [step_xor, steps_xor n]
theorem steps_zero : ∀ n, steps n 0 = 0
  | 0 => rfl
  | n + 1 => by simp only [steps, step_zero]; exact steps_zero n
theorem steps_lt : ∀ (n : Nat) {c : Nat}, c < 4294967296 → steps n c < 4294967296
  | 0, _, h => h
  | n + 1, _, h => steps_lt n (step_lt h)
theorem steps_inj : ∀ (n : Nat) {c : Nat}, c < 4294967296 → steps n c = 0 → c = 0
  | 0, _, _, hz => hz
  | n + 1, _, h, hz => step_inj h (steps_inj n (step_lt h) hz)
theorem steps_add : ∀ (n m c : Nat), steps (n + m) c = steps m (steps n c)
  | 0, m, c => by simp [steps]
  | n + 1, m, c => by rw [show n + 1 + m = (n + m) + 1 from by omega]; simp only [steps]; exact steps_add n m _
theorem steps_even : ∀ (n b : Nat), steps n (b * 2 ^ n) = b
  | 0, b => by simp [steps]
  | n + 1, b => by
    have e : step (b * 2 ^ (n + 1)) = b * 2 ^ n := by
      rw [Nat.pow_succ, ← Nat.mul_assoc]
      unfold step
      rw [if_neg (by omega)]
      omega
    simp only [steps, e]
    exact steps_even n b

theorem byte_lt {c b : Nat} (hc : c < 4294967296) (hb : b < 256) : byte c b < 4294967296 :=
  steps_lt 8 (xlt hc (by omega))
theorem run_lt (l : List UInt8) {c : Nat} (h : c < 4294967296) : run c l < 4294967296 := by
  induction l generalizing c with
  | nil => rw [run_nil]; exact h
  | cons b r ih =>
    have hb : b.toNat < 256 := b.toNat_lt
    rw [run_cons]
    exact ih (byte_lt h hb)
theorem run_append (l m : List UInt8) (c : Nat) : run c (l ++ m) = run (run c l) m := by
  simp only [run, List.foldl_append]
theorem crc_lt (l : List UInt8) : crc l < 4294967296 := xlt (run_lt l (by omega)) (by omega)

/-- Two rows of bytes, one upon the other. -/
def mix : List UInt8 → List UInt8 → List UInt8
  | a :: r, b :: s => (a ^^^ b) :: mix r s
  | _, _ => []
theorem byte_xor (c d : Nat) (a b : UInt8) : byte (c ^^^ d) (a ^^^ b).toNat = byte c a.toNat ^^^ byte d b.toNat := by
  unfold byte
  rw [← steps_xor, UInt8.toNat_xor]
  have e : c ^^^ d ^^^ (a.toNat ^^^ b.toNat) = c ^^^ a.toNat ^^^ (d ^^^ b.toNat) := by
    rw [Nat.xor_assoc, Nat.xor_assoc, ← Nat.xor_assoc d, Nat.xor_comm d, Nat.xor_assoc a.toNat]
  rw [e]
theorem run_mix (l m : List UInt8) (c d : Nat) (h : l.length = m.length) : run (c ^^^ d) (mix l m) = run c l ^^^ run d m := by
  induction l generalizing m c d with
  | nil =>
    cases m with
    | nil => simp only [mix, run_nil]
    | cons b s => simp at h
  | cons a r ih =>
    cases m with
    | nil => simp at h
    | cons b s =>
      simp only [mix]
      rw [run_cons, run_cons, run_cons, byte_xor]
      exact ih s _ _ (by simpa using h)
theorem mix_len : ∀ (l m : List UInt8), l.length = m.length → (mix l m).length = l.length
  | [], [], _ => rfl
  | a :: r, b :: s, h => by simp only [mix, List.length_cons]; rw [mix_len r s (by simpa using h)]
  | [], _ :: _, h => by simp at h
  | _ :: _, [], h => by simp at h

/-- Of three rows and the one that they make together the sums make nothing together. -/
theorem crc_mix (a b c : List UInt8) (h1 : a.length = b.length) (h2 : b.length = c.length) : crc a ^^^ crc b ^^^ crc c = crc (mix (mix a b) c) := by
  unfold crc
  have e := run_mix (mix a b) c (0xffffffff ^^^ 0xffffffff) 0xffffffff (by rw [mix_len a b h1]; omega)
  rw [run_mix a b _ _ h1] at e
  have e2 : (0xffffffff ^^^ 0xffffffff ^^^ 0xffffffff : Nat) = 0xffffffff := by decide
  rw [e2] at e
  rw [e]
  generalize run 4294967295 a = x
  generalize run 4294967295 b = y
  generalize run 4294967295 c = z
  have hf : (4294967295 : Nat) ^^^ 4294967295 = 0 := by decide
  calc x ^^^ 4294967295 ^^^ (y ^^^ 4294967295) ^^^ (z ^^^ 4294967295)
      = x ^^^ y ^^^ (4294967295 ^^^ 4294967295) ^^^ (z ^^^ 4294967295) := by
        congr 1
        rw [Nat.xor_assoc x, ← Nat.xor_assoc 4294967295 y, Nat.xor_comm 4294967295 y, Nat.xor_assoc y, ← Nat.xor_assoc x]
    _ = x ^^^ y ^^^ z ^^^ 4294967295 := by rw [hf, Nat.xor_zero, Nat.xor_assoc (x ^^^ y)]

def noughts (n : Nat) : List UInt8 := List.replicate n 0
theorem mix_noughts : ∀ (l : List UInt8), mix l (noughts l.length) = l
  | [] => rfl
  | a :: r => by
    have ih := mix_noughts r
    simp only [noughts, List.length_cons, List.replicate_succ, mix] at ih ⊢
    rw [ih]; simp
theorem run_noughts_ne (n : Nat) {c : Nat} (hc : c < 4294967296) (h : c ≠ 0) : run c (noughts n) ≠ 0 := by
  induction n generalizing c with
  | zero => simp only [noughts, List.replicate_zero, run_nil]; exact h
  | succ n ih =>
    have e : byte c (0 : UInt8).toNat = steps 8 c := by
      unfold byte
      rw [show (0 : UInt8).toNat = 0 from rfl, Nat.xor_zero]
    simp only [noughts, List.replicate_succ]
    rw [run_cons, e]
    exact ih (steps_lt 8 hc) (fun hz => h (steps_inj 8 hc hz))
theorem four (w x y z : UInt8) : run 0 [w, x, y, z] = steps 32 (w.toNat ^^^ x.toNat * 2 ^ 8 ^^^ y.toNat * 2 ^ 16 ^^^ z.toNat * 2 ^ 24) := by
  rw [run_cons, run_cons, run_cons, run_cons, run_nil]
  simp only [byte, Nat.zero_xor]
  have h1 : steps 8 w.toNat ^^^ x.toNat = steps 8 (w.toNat ^^^ x.toNat * 2 ^ 8) := by rw [steps_xor, steps_even]
  rw [h1, ← steps_add]
  have h2 : steps (8 + 8) (w.toNat ^^^ x.toNat * 2 ^ 8) ^^^ y.toNat = steps (8 + 8) (w.toNat ^^^ x.toNat * 2 ^ 8 ^^^ y.toNat * 2 ^ 16) := by rw [steps_xor 16 (w.toNat ^^^ x.toNat * 2 ^ 8), steps_even 16]
  rw [h2, ← steps_add]
  have h3 : steps (8 + 8 + 8) (w.toNat ^^^ x.toNat * 2 ^ 8 ^^^ y.toNat * 2 ^ 16) ^^^ z.toNat = steps (8 + 8 + 8) (w.toNat ^^^ x.toNat * 2 ^ 8 ^^^ y.toNat * 2 ^ 16 ^^^ z.toNat * 2 ^ 24) := by rw [steps_xor 24 (w.toNat ^^^ x.toNat * 2 ^ 8 ^^^ y.toNat * 2 ^ 16), steps_even 24]
  rw [h3, ← steps_add]
theorem low_bits (a b k : Nat) : (a ^^^ b * 2 ^ k) % 2 ^ k = a % 2 ^ k := by
  rw [Nat.xor_mod_two_pow]; simp
theorem four_ne {w x y z : UInt8} (h : ¬ (w.toNat = 0 ∧ x.toNat = 0 ∧ y.toNat = 0 ∧ z.toNat = 0)) : run 0 [w, x, y, z] ≠ 0 := by
  rw [four]
  have hw := w.toNat_lt; have hx := x.toNat_lt; have hy := y.toNat_lt; have hz := z.toNat_lt
  intro he
  have hlt : w.toNat ^^^ x.toNat * 2 ^ 8 ^^^ y.toNat * 2 ^ 16 ^^^ z.toNat * 2 ^ 24 < 4294967296 :=
    xlt (xlt (xlt (by omega) (by omega)) (by omega)) (by omega)
  have h0 := steps_inj 32 hlt he
  have e1 : w.toNat = 0 := by
    have := congrArg (· % 2 ^ 8) h0
    rw [show z.toNat * 2 ^ 24 = (z.toNat * 2 ^ 16) * 2 ^ 8 from by omega, low_bits, show y.toNat * 2 ^ 16 = (y.toNat * 2 ^ 8) * 2 ^ 8 from by omega, low_bits, low_bits] at this
    omega
  rw [e1, Nat.zero_xor] at h0
  have e2 : x.toNat = 0 := by
    have := congrArg (· % 2 ^ 16) h0
    rw [show z.toNat * 2 ^ 24 = (z.toNat * 2 ^ 8) * 2 ^ 16 from by omega, low_bits, low_bits] at this
    omega
  rw [e2, Nat.zero_mul, Nat.zero_xor] at h0
  have e3 : y.toNat = 0 := by
    have := congrArg (· % 2 ^ 24) h0
    rw [low_bits] at this
    omega
  rw [e3, Nat.zero_mul, Nat.zero_xor] at h0
  exact h ⟨e1, e2, e3, by omega⟩

/-- Bytes of which four that stand together are turned have another sum. -/
theorem crc_turned (p r : List UInt8) (b0 b1 b2 b3 w x y z : UInt8) (h : ¬ (w.toNat = 0 ∧ x.toNat = 0 ∧ y.toNat = 0 ∧ z.toNat = 0)) :
    crc (p ++ [b0 ^^^ w, b1 ^^^ x, b2 ^^^ y, b3 ^^^ z] ++ r) ≠ crc (p ++ [b0, b1, b2, b3] ++ r) := by
  unfold crc
  intro he
  have he2 : run 0xffffffff (p ++ [b0 ^^^ w, b1 ^^^ x, b2 ^^^ y, b3 ^^^ z] ++ r) = run 0xffffffff (p ++ [b0, b1, b2, b3] ++ r) := by
    have := congrArg (· ^^^ 4294967295) he
    simpa [Nat.xor_assoc] using this
  rw [run_append, run_append, run_append, run_append] at he2
  generalize hs : run 4294967295 p = s at he2
  have hsl : s < 4294967296 := by rw [← hs]; exact run_lt p (by omega)
  have e1 : run s [b0 ^^^ w, b1 ^^^ x, b2 ^^^ y, b3 ^^^ z] = run s [b0, b1, b2, b3] ^^^ run 0 [w, x, y, z] := by
    have := run_mix [b0, b1, b2, b3] [w, x, y, z] s 0 rfl
    simpa [mix] using this
  have hd := four_ne h
  have hdl : run 0 [w, x, y, z] < 4294967296 := run_lt _ (by omega)
  rw [e1] at he2
  have e2 := run_mix r (noughts r.length) (run s [b0, b1, b2, b3]) (run 0 [w, x, y, z]) (by simp [noughts])
  rw [mix_noughts, he2] at e2
  have e3 : run (run 0 [w, x, y, z]) (noughts r.length) = 0 := by
    have := congrArg (run (run s [b0, b1, b2, b3]) r ^^^ ·) e2
    simp only [Nat.xor_self] at this
    rw [← Nat.xor_assoc, Nat.xor_self, Nat.zero_xor] at this
    exact this.symm
  exact run_noughts_ne r.length hdl hd e3

/-- FNV-1a. -/
def fnvStep (h : Nat) (b : UInt8) : Nat := (h ^^^ b.toNat) * 0x100000001b3 % 18446744073709551616
def fnv (l : List UInt8) : Nat := l.foldl fnvStep 0xcbf29ce484222325
theorem fnv_snoc (l : List UInt8) (b : UInt8) : fnv (l ++ [b]) = fnvStep (fnv l) b := by
  unfold fnv
  rw [List.foldl_append, List.foldl_cons, List.foldl_nil]
theorem fnvStep_lt (h : Nat) (b : UInt8) : fnvStep h b < 18446744073709551616 := by
  unfold fnvStep
  omega
theorem fold_lt (l : List UInt8) (h : Nat) (hh : h < 18446744073709551616) : l.foldl fnvStep h < 18446744073709551616 := by
  induction l generalizing h with
  | nil => rw [List.foldl_nil]; exact hh
  | cons b r ih => rw [List.foldl_cons]; exact ih _ (fnvStep_lt h b)
theorem fnv_lt (l : List UInt8) : fnv l < 18446744073709551616 := by
  unfold fnv
  exact fold_lt l _ (by omega)
end Go.Proofs.Ytadcbefgleiijaa.S
