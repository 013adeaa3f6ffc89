/-
  The contract of the document's own Unpack over the program. Package bits: its small functions (isWidth, isCount, bytesOf, bitAt, hasBitsFrom), Width and Size.
-/
import Derived.Test.YtnmonoafjijfhaaGreatM16
namespace Go.Proofs.YtnmonoafjijfhaaGreat
open Go.RowKit
set_option linter.unusedVariables false

/-- What Unpack has laid when it stands at place q. -/
def UN (D n : Nat) (b : List UInt8) (q : Nat) : List Nat := (List.range n).map fun i => B.num (fun t => decide (i * D + t < q) && B.bit8 b (i * D + t)) D
theorem UN_len (D n : Nat) (b : List UInt8) (q : Nat) : (UN D n b q).length = n := by simp [UN]
theorem UN_at {D n : Nat} {b : List UInt8} {q i : Nat} (h : i < n) : (UN D n b q)[i]'(by rw [UN_len]; exact h) = B.num (fun t => decide (i * D + t < q) && B.bit8 b (i * D + t)) D := by simp [UN]
theorem UN_lt {D n : Nat} {b : List UInt8} {q i : Nat} (h : i < n) : (UN D n b q)[i]'(by rw [UN_len]; exact h) < 2 ^ D := by rw [UN_at h]; exact B.num_lt _ _
theorem num_nought (f : Nat → Bool) (n : Nat) (h : ∀ i, i < n → f i = false) : B.num f n = 0 := by
  apply Nat.eq_of_testBit_eq
  intro i
  rw [B.num_bit]
  by_cases hi : i < n
  · simp [h i hi]
  · simp [hi]
theorem UN_start (D n : Nat) (b : List UInt8) : UN D n b 0 = List.replicate n 0 := by
  apply List.ext_getElem
  · simp [UN]
  · intro i h1 h2
    rw [UN_at (by simpa using h2), num_nought _ _ (by intro t _; simp)]
    simp
theorem UN_end {D n : Nat} {b : List UInt8} {q : Nat} (h : n * D ≤ q) : UN D n b q = B.unpack D n b := by
  apply List.ext_getElem
  · simp [UN, B.unpack]
  · intro i h1 h2
    have hi : i < n := by simpa [UN] using h1
    rw [UN_at hi]
    simp only [B.unpack, List.getElem_map, List.getElem_range]
    apply B.num_same
    intro t ht
    have := B.place_lt hi ht
    simp; omega
theorem UN_same {D n : Nat} {b : List UInt8} {q : Nat} (h : B.bit8 b q = false) : UN D n b (q + 1) = UN D n b q := by
  apply List.ext_getElem
  · simp [UN]
  · intro i h1 h2
    have hi : i < n := by simpa [UN] using h1
    rw [UN_at hi, UN_at hi]
    apply B.num_same
    intro t ht
    by_cases hp : i * D + t = q
    · rw [hp, h]; simp
    · have : (decide (i * D + t < q + 1)) = decide (i * D + t < q) := by simp; omega
      rw [this]
theorem UN_set {D n : Nat} {b : List UInt8} {q : Nat} (hq : q < n * D) (h : B.bit8 b q = true) (hD : 0 < D) (hi : q / D < n) :
    (UN D n b q).set (q / D) ((UN D n b q)[q / D]'(by rw [UN_len]; exact hi) ||| 2 ^ (q % D)) = UN D n b (q + 1) := by
  have hqe : q / D * D + q % D = q := by rw [Nat.mul_comm]; exact Nat.div_add_mod q D
  have hml : q % D < D := Nat.mod_lt _ hD
  apply List.ext_getElem
  · simp [UN]
  · intro i h1 h2
    have hin : i < n := by simpa [UN] using h2
    rw [List.getElem_set]
    by_cases he : q / D = i
    · subst he
      rw [if_pos rfl, UN_at hin, UN_at hin]
      apply Nat.eq_of_testBit_eq
      intro t
      rw [Nat.testBit_or, B.num_bit, B.num_bit, Nat.testBit_two_pow]
      by_cases ht : t < D
      · by_cases hp : q % D = t
        · subst hp
          rw [hqe, h]; simp [hml]
        · have h3 : ¬ q / D * D + t = q := fun e => hp (by omega)
          have : (decide (q / D * D + t < q + 1)) = decide (q / D * D + t < q) := by simp; omega
          rw [this]; simp [hp]
      · have : ¬ q % D = t := by omega
        simp [ht, this]
    · rw [if_neg he, UN_at hin, UN_at hin]
      apply B.num_same
      intro t ht
      have hne : ¬ i * D + t = q := fun e => he (by rw [← e]; exact B.place_div ht)
      have : (decide (i * D + t < q + 1)) = decide (i * D + t < q) := by simp; omega
      rw [this]
theorem or_bit64 (o t : Nat) (ho : o < 18446744073709551616) (ht : t < 64) : bits .or .u64 (o : Int) (2 ^ t % 18446744073709551616) = ((o ||| 2 ^ t : Nat) : Int) := by
  have h : 2 ^ t < 18446744073709551616 := Nat.pow_lt_pow_right (a := 2) (m := t) (n := 64) (by decide) ht
  have e : (2 : Int) ^ t % 18446744073709551616 = ((2 ^ t : Nat) : Int) := by
    have : ((2 ^ t : Nat) : Int) = (2 : Int) ^ t := by simp
    rw [← this]
    generalize 2 ^ t = y at h ⊢
    omega
  rw [e]
  exact (bits_nat .u64 64 (by decide) I.wraps64 o (2 ^ t) (by omega) (by omega)).2
theorem I.and1b (n : Int) (h : 0 ≤ n) (h2 : n ≤ 255) : bits .and .u8 n 1 = n % 2 :=
  bits_mask .u8 8 (by decide) wraps_u8 1 (by decide) n h (by omega)
theorem bit8_one {b : List UInt8} {p : Nat} (h : B.bit8 b p = true) : bits .and .u8 ((M.bAt b (p / 8) : Int) / 2 ^ (p % 8)) 1 = 1 := by
  have hb := M.bAt_lt b (p / 8)
  unfold B.bit8 at h
  have h' : (M.bAt b (p / 8)).testBit (p % 8) = true := h
  rw [Nat.testBit_eq_decide_div_mod_eq] at h'
  have e : (M.bAt b (p / 8) : Int) / 2 ^ (p % 8) = ((M.bAt b (p / 8) / 2 ^ (p % 8) : Nat) : Int) := by simp
  have hd := Nat.div_le_self (M.bAt b (p / 8)) (2 ^ (p % 8))
  rw [e]
  generalize M.bAt b (p / 8) / 2 ^ (p % 8) = y at hd h' ⊢
  rw [I.and1b _ (by omega) (by omega)]
  simp at h'
  omega
theorem bit8_none {b : List UInt8} {p : Nat} (h : B.bit8 b p = false) : bits .and .u8 ((M.bAt b (p / 8) : Int) / 2 ^ (p % 8)) 1 = 0 := by
  have hb := M.bAt_lt b (p / 8)
  unfold B.bit8 at h
  have h' : (M.bAt b (p / 8)).testBit (p % 8) = false := h
  rw [Nat.testBit_eq_decide_div_mod_eq] at h'
  have e : (M.bAt b (p / 8) : Int) / 2 ^ (p % 8) = ((M.bAt b (p / 8) / 2 ^ (p % 8) : Nat) : Int) := by simp
  have hd := Nat.div_le_self (M.bAt b (p / 8)) (2 ^ (p % 8))
  rw [e]
  generalize M.bAt b (p / 8) / 2 ^ (p % 8) = y at hd h' ⊢
  rw [I.and1b _ (by omega) (by omega)]
  simp at h'
  omega
theorem rsize_is (N W : Int) (r : Nat) (w : World) (h1 : -9223372036854775808 ≤ N) (h2 : N ≤ 9223372036854775807) (h3 : -9223372036854775808 ≤ W) (h4 : W ≤ 9223372036854775807) (hr : B.siz N W = r) :
    Calls Tryz.prog 114 #[.int .i64 N, .int .i64 W] w fun e w' => e = .returned (.int .i64 r) ∧ w' = w := by subst hr; exact rsize_any N W w h1 h2 h3 h4

set_option maxRecDepth 100000 in
set_option maxHeartbeats 2000000 in
/-- Unpack, where the bytes are as many as they should be. -/
theorem runpack_main (a : Option Addr) (cap : Nat) (b : List UInt8) (n D : Nat) (w : World) (hB : Byt w a cap b) (hn : n ≤ 16777216) (hD : D ≤ 64) (hs : b.length = B.size n D) (r : List Nat) (e0 : Nat) (hr : (if B.left D n b then ([], 12) else (B.unpack D n b, 0)) = (r, e0)) :
    Calls Tryz.prog 91 #[.slice a b.length cap, .int .i64 n, .int .i64 D] w fun e w' => ∃ v, e = .returned (.tuple #[v, .int .i64 e0]) ∧ IsRd n64 r v w' ∧ Fresh w.heap.size v ∧ Ex w w' := by
  have HB : Hid (Byt w a cap b) := hB
  have HR : Hid ((if B.left D n b then ([], 12) else (B.unpack D n b, 0)) = (r, e0)) := hr
  clear hB hr
  have t1 : decide ((D : Int) < 0) = false := by simp
  have t2 : decide (64 < (D : Int)) = false := by simp; omega
  have t3 : decide ((n : Int) < 0) = false := by simp
  have t4 : decide (16777216 < (n : Int)) = false := by simp; omega
  obtain ⟨S, hS⟩ : ∃ S, S = n * D := ⟨_, rfl⟩
  have hSm : S ≤ 16777216 * 64 := by rw [hS]; exact Nat.mul_le_mul hn hD
  have hSi : (n : Int) * (D : Int) = (S : Int) := by rw [hS]; simp
  have hsz : B.siz n D = b.length := by rw [hs]; unfold B.siz; rw [if_neg (by omega)]; rfl
  have hb8 : 8 * b.length < S + 8 := by rw [hs, hS]; exact B.size_lt n D
  have hb9 : S ≤ 8 * b.length := by rw [hs, hS]; exact B.size_le n D
  have HSz : Hid (B.siz n D = b.length) := hsz
  have HS : Hid (S = n * D) := hS
  clear hS hsz hs
  have hlb : b.length ≤ 134217729 := by omega
  go_enter Tryz.func91, Tryz.ntmps91
  go_wp2_with fail
  refine (rsize_is _ _ b.length _ (by omega) (by omega) (by omega) (by omega) HSz.out).mono ?_
  rintro e wq ⟨rfl, hw'⟩
  have hw'' := hw'.symm
  clear hw'
  subst hw''
  go_wp2_with fail
  refine (rsize_is _ _ b.length _ (by omega) (by omega) (by omega) (by omega) HSz.out).mono ?_
  rintro e wq ⟨rfl, hw'⟩
  have hw'' := hw'.symm
  clear hw'
  subst hw''
  go_wp2_with (at_make; refine wpList_make_row (enc := n64) rfl _ _ 77 69 rfl 0 8 Tryz.underlying77 rfl Tryz.info69 _ _ n rfl rfl (by omega) (by omega) (by omega) (by omega) ?_; intro w1 hr1 hb1)
  have hrz : RowAt n64 69 w1 w.heap.size (UN D n b 0) := by rw [UN_start]; exact hr1
  have HRZ : Hid (RowAt n64 69 w1 w.heap.size (UN D n b 0)) := hrz
  clear hr1 hrz
  go_loopw [9] (fun i wr => ∃ p : Nat, p ≤ 8 * b.length ∧ i = .int .i64 p ∧ Hid (∀ q, S ≤ q → q < p → B.bit8 b q = false) ∧ Hid (RowAt n64 69 wr w.heap.size (UN D n b p)) ∧ Hid (Below w.heap.size w wr)) (fun i _ => 8 * b.length - (intOf i).toNat)
  case atStart =>
    have h0 : ∀ q, S ≤ q → q < 0 → B.bit8 b q = false := fun q _ hq => by omega
    exact ⟨0, by omega, rfl, h0, HRZ, hb1⟩
  case round =>
    obtain ⟨p, hp, rfl, HNo, HRo, HBl⟩ := hrel
    clear HRZ hb1
    by_cases hlt : p < 8 * b.length
    · obtain ⟨bb, off, rfl, hc⟩ := HB.out.2.2.2 (p / 8) (by omega)
      have hq := World.block_lt_of_cell? w _ hc
      have hq' : bb < w.heap.size := hq
      have hcx : wr.cell? ⟨bb, off + p / 8, none⟩ = some (.int .u8 (M.bAt b (p / 8))) := by
        rw [HBl.out.cell (p := ⟨bb, off + p / 8, none⟩) hq]; exact hc
      clear hc
      have hib : (p : Int) / 8 < (b.length : Int) := by omega
      cases hbit : B.bit8 b p
      · have hand := bit8_none hbit
        have hno : ∀ q, S ≤ q → q < p + 1 → B.bit8 b q = false := fun q h1 h2 => by
          by_cases he : q = p
          · rw [he]; exact hbit
          · exact HNo.out q h1 (by omega)
        have hrw : RowAt n64 69 wr w.heap.size (UN D n b (p + 1)) := by rw [UN_same hbit]; exact HRo.out
        have HNo' : Hid (∀ q, S ≤ q → q < p + 1 → B.bit8 b q = false) := hno
        have HRo' : Hid (RowAt n64 69 wr w.heap.size (UN D n b (p + 1))) := hrw
        clear hno hrw hbit
        go_wp2
        go_roundw
        case rel => exact ⟨p + 1, by omega, by go_num, HNo', HRo', HBl⟩
        case measure => simp [intOf]; omega
      · have hand := bit8_one hbit
        by_cases hps : S ≤ p
        · have hleft : B.left D n b = true := B.left_true (by rw [← HS.out]; exact hps) hlt hbit
          have hfin := HR.out
          rw [hleft] at hfin
          simp only [if_true, Prod.mk.injEq] at hfin
          obtain ⟨rfl, rfl⟩ := hfin
          have hpi : (S : Int) ≤ (p : Int) := by omega
          clear hleft hbit
          go_wp2
          go_ret2
          exact ⟨_, rfl, IsRd.nil _, Fresh.nil _, HBl.out⟩
        · have hD0 : 0 < D := by
            rcases Nat.eq_zero_or_pos D with h | h
            · have := HS.out; rw [h] at this; omega
            · exact h
          have hpn : p < n * D := by rw [← HS.out]; omega
          have hdn : p / D < n := (Nat.div_lt_iff_lt_mul hD0).2 hpn
          have hmd : p % D < D := Nat.mod_lt _ hD0
          have hlu : p / D < (UN D n b p).length := by rw [UN_len]; exact hdn
          obtain ⟨o, ho⟩ : ∃ o, o = (UN D n b p)[p / D]'hlu := ⟨_, rfl⟩
          have holt : o < 18446744073709551616 := by
            rw [ho]
            have h1 := UN_lt (D := D) (b := b) (q := p) hdn
            have h2 : 2 ^ D ≤ 2 ^ 64 := Nat.pow_le_pow_right (by decide) hD
            exact Nat.lt_of_lt_of_le h1 (by simpa using h2)
          have hco : wr.cell? ⟨w.heap.size, p / D, none⟩ = some (.int .u64 (o : Int)) := by rw [HRo.out.cell hlu, ho]
          have hfo : wr.frozen? ⟨w.heap.size, p / D, none⟩ = false := HRo.out.frozen _
          have hset : (UN D n b p).set (p / D) (o ||| 2 ^ (p % D)) = UN D n b (p + 1) := by rw [ho]; exact UN_set hpn hbit hD0 hdn
          have hnew : RowAt n64 69 (wr.setCell ⟨w.heap.size, p / D, none⟩ (.int .u64 (bits .or .u64 (o : Int) (2 ^ (p % D) % 18446744073709551616)))) w.heap.size (UN D n b (p + 1)) := by
            rw [← hset]
            exact HRo.out.set (o ||| 2 ^ (p % D)) (by rw [or_bit64 o _ holt (by omega)])
          have HNew : Hid (RowAt n64 69 (wr.setCell ⟨w.heap.size, p / D, none⟩ (.int .u64 (bits .or .u64 (o : Int) (2 ^ (p % D) % 18446744073709551616)))) w.heap.size (UN D n b (p + 1))) := hnew
          have hno : ∀ q, S ≤ q → q < p + 1 → B.bit8 b q = false := fun q h1 h2 => HNo.out q h1 (by omega)
          have HNo' : Hid (∀ q, S ≤ q → q < p + 1 → B.bit8 b q = false) := hno
          have hD0i : ((D : Int) == 0) = false := by simp; omega
          have hui : (p : Int) / (D : Int) = ((p / D : Nat) : Int) := by simp
          have hvi : (p : Int) % (D : Int) = ((p % D : Nat) : Int) := by simp
          clear hnew hset ho hno hbit hlu
          generalize p / D = u at hui hco hfo HNew hdn
          generalize p % D = v at hvi HNew hmd
          have hun : (u : Int) < (n : Int) := by omega
          have hu9 : u ≤ 16777216 := by omega
          have hv9 : v < 64 := by omega
          go_wp2_with fail
          go_big_region
          go_wp2
          go_roundw
          case rel => exact ⟨p + 1, by omega, by go_num, HNo', HNew.out, (HBl.out.setCell (p := ⟨w.heap.size, u, none⟩) (Nat.le_refl _) _).drew⟩
          case measure => simp [intOf]; omega
    · obtain rfl : p = 8 * b.length := by omega
      have hleft : B.left D n b = false := B.left_false.2 fun q h1 h2 => HNo.out q (by rw [HS.out]; exact h1) h2
      have hfin := HR.out
      rw [hleft] at hfin
      simp only [Bool.false_eq_true, if_false, Prod.mk.injEq] at hfin
      obtain ⟨rfl, rfl⟩ := hfin
      have hrow : RowAt n64 69 wr w.heap.size (B.unpack D n b) := by rw [← UN_end (D := D) (n := n) (b := b) (q := 8 * b.length) (by rw [← HS.out]; exact hb9)]; exact HRo.out
      have hln : n = (B.unpack D n b).length := (B.unpack_len D n b).symm
      have HRd : Hid (Rd n64 wr (some ⟨w.heap.size, 0, none⟩) n (B.unpack D n b)) := hrow.rd hln (by omega)
      have HLn : Hid (n = (B.unpack D n b).length) := hln
      clear hln hrow hleft
      go_wp2
      go_ret2
      exact ⟨_, rfl, ⟨some ⟨w.heap.size, 0, none⟩, n, by rw [← HLn.out]; rfl, HRd.out⟩, Fresh.at _ _ _, HBl.out⟩

set_option maxRecDepth 100000 in
/-- The document's own Unpack. -/
theorem runpack_any (a : Option Addr) (len cap : Nat) (b : List UInt8) (n wd : Int) (w : World) (hlen : len = b.length) (hB : Byt w a cap b) (hbl : b.length ≤ 140737488351232) (n1 : -9223372036854775808 ≤ n) (n2 : n ≤ 9223372036854775807) (d1 : -9223372036854775808 ≤ wd) (d2 : wd ≤ 9223372036854775807) (r : List Nat) (e0 : Nat) (hr : B.unp b n wd = (r, e0)) :
    Calls Tryz.prog 91 #[.slice a len cap, .int .i64 n, .int .i64 wd] w fun e w' => ∃ v, e = .returned (.tuple #[v, .int .i64 e0]) ∧ IsRd n64 r v w' ∧ Fresh w.heap.size v ∧ Ex w w' := by
  subst hlen
  have HB : Hid (Byt w a cap b) := hB
  clear hB
  unfold B.unp at hr
  by_cases a1 : wd < 0
  · have t1 : decide (wd < 0) = true := by simp; omega
    rw [if_pos (by omega)] at hr
    simp only [Prod.mk.injEq] at hr
    obtain ⟨rfl, rfl⟩ := hr
    go_enter Tryz.func91, Tryz.ntmps91
    go_wp2
    go_ret2
    exact ⟨_, rfl, IsRd.nil _, Fresh.nil _, Ex.refl _⟩
  · have t1 : decide (wd < 0) = false := by simp; omega
    by_cases a2 : 64 < wd
    · have t2 : decide (64 < wd) = true := by simp; omega
      rw [if_pos (by omega)] at hr
      simp only [Prod.mk.injEq] at hr
      obtain ⟨rfl, rfl⟩ := hr
      go_enter Tryz.func91, Tryz.ntmps91
      go_wp2
      go_ret2
      exact ⟨_, rfl, IsRd.nil _, Fresh.nil _, Ex.refl _⟩
    · have t2 : decide (64 < wd) = false := by simp; omega
      rw [if_neg (by omega)] at hr
      by_cases a3 : n < 0
      · have t3 : decide (n < 0) = true := by simp; omega
        rw [if_pos (by omega)] at hr
        simp only [Prod.mk.injEq] at hr
        obtain ⟨rfl, rfl⟩ := hr
        go_enter Tryz.func91, Tryz.ntmps91
        go_wp2
        go_ret2
        exact ⟨_, rfl, IsRd.nil _, Fresh.nil _, Ex.refl _⟩
      · have t3 : decide (n < 0) = false := by simp; omega
        by_cases a4 : 16777216 < n
        · have t4 : decide (16777216 < n) = true := by simp; omega
          rw [if_pos (by omega)] at hr
          simp only [Prod.mk.injEq] at hr
          obtain ⟨rfl, rfl⟩ := hr
          go_enter Tryz.func91, Tryz.ntmps91
          go_wp2
          go_ret2
          exact ⟨_, rfl, IsRd.nil _, Fresh.nil _, Ex.refl _⟩
        · have t4 : decide (16777216 < n) = false := by simp; omega
          rw [if_neg (by omega)] at hr
          obtain ⟨N, rfl⟩ := Int.eq_ofNat_of_zero_le (show 0 ≤ n by omega)
          obtain ⟨D, rfl⟩ := Int.eq_ofNat_of_zero_le (show 0 ≤ wd by omega)
          simp only [Int.toNat_natCast] at hr
          have hsz : B.siz N D = B.size N D := by unfold B.siz; rw [if_neg (by omega)]; rfl
          obtain ⟨z, hz⟩ : ∃ z, z = B.size N D := ⟨_, rfl⟩
          rw [← hz] at hr hsz
          have HSz : Hid (B.siz N D = z) := hsz
          have HZ : Hid (z = B.size N D) := hz
          clear hsz hz
          by_cases a5 : b.length < z
          · have t5 : decide ((b.length : Int) < (z : Int)) = true := by simp; omega
            rw [if_pos a5] at hr
            simp only [Prod.mk.injEq] at hr
            obtain ⟨rfl, rfl⟩ := hr
            go_enter Tryz.func91, Tryz.ntmps91
            go_wp2_with fail
            refine (rsize_is _ _ z _ (by omega) (by omega) (by omega) (by omega) HSz.out).mono ?_
            rintro e wq ⟨rfl, hw'⟩
            have hw'' := hw'.symm
            clear hw'
            subst hw''
            go_wp2
            go_ret2
            exact ⟨_, rfl, IsRd.nil _, Fresh.nil _, Ex.refl _⟩
          · have t5 : decide ((b.length : Int) < (z : Int)) = false := by simp; omega
            rw [if_neg a5] at hr
            by_cases a6 : z < b.length
            · have t6 : decide ((z : Int) < (b.length : Int)) = true := by simp; omega
              rw [if_pos a6] at hr
              simp only [Prod.mk.injEq] at hr
              obtain ⟨rfl, rfl⟩ := hr
              go_enter Tryz.func91, Tryz.ntmps91
              go_wp2_with fail
              refine (rsize_is _ _ z _ (by omega) (by omega) (by omega) (by omega) HSz.out).mono ?_
              rintro e wq ⟨rfl, hw'⟩
              have hw'' := hw'.symm
              clear hw'
              subst hw''
              go_wp2_with fail
              refine (rsize_is _ _ z _ (by omega) (by omega) (by omega) (by omega) HSz.out).mono ?_
              rintro e wq ⟨rfl, hw'⟩
              have hw'' := hw'.symm
              clear hw'
              subst hw''
              go_wp2
              go_ret2
              exact ⟨_, rfl, IsRd.nil _, Fresh.nil _, Ex.refl _⟩
            · rw [if_neg a6] at hr
              exact runpack_main a cap b N D w HB.out (by omega) (by omega) (by have := HZ.out; omega) r e0 hr
end Go.Proofs.YtnmonoafjijfhaaGreat
namespace Go.Proofs.YtnmonoafjijfhaaGreat
open Go.RowKit
set_option linter.unusedVariables false

theorem isWidth_is (d : Int) (w : World) (r : Bool) (hr : decide (0 ≤ d ∧ d ≤ 64) = r) :
    Calls Tryz.prog 131 #[.int .i64 d] w fun e w' => e = .returned (.bool r) ∧ w' = w := by
  subst hr
  by_cases a1 : 0 ≤ d
  · have t1 : decide (0 ≤ d) = true := by simp; omega
    have hr : decide (0 ≤ d ∧ d ≤ 64) = decide (d ≤ 64) := by simp; omega
    rw [hr]
    clear hr
    go_enter Tryz.func131, Tryz.ntmps131
    go_wp2
    go_ret
    exact ⟨rfl, rfl⟩
  · have t1 : decide (0 ≤ d) = false := by simp; omega
    have hr : decide (0 ≤ d ∧ d ≤ 64) = false := by simp; omega
    rw [hr]
    clear hr
    go_enter Tryz.func131, Tryz.ntmps131
    go_wp2
    go_ret
    exact ⟨rfl, rfl⟩
theorem isCount_is (d : Int) (w : World) (r : Bool) (hr : decide (0 ≤ d ∧ d ≤ 16777216) = r) :
    Calls Tryz.prog 148 #[.int .i64 d] w fun e w' => e = .returned (.bool r) ∧ w' = w := by
  subst hr
  by_cases a1 : 0 ≤ d
  · have t1 : decide (0 ≤ d) = true := by simp; omega
    have hr : decide (0 ≤ d ∧ d ≤ 16777216) = decide (d ≤ 16777216) := by simp; omega
    rw [hr]
    clear hr
    go_enter Tryz.func148, Tryz.ntmps148
    go_wp2
    go_ret
    exact ⟨rfl, rfl⟩
  · have t1 : decide (0 ≤ d) = false := by simp; omega
    have hr : decide (0 ≤ d ∧ d ≤ 16777216) = false := by simp; omega
    rw [hr]
    clear hr
    go_enter Tryz.func148, Tryz.ntmps148
    go_wp2
    go_ret
    exact ⟨rfl, rfl⟩
set_option maxRecDepth 100000 in
theorem bytesOf_is (b : Int) (S : Nat) (w : World) (hb : b = (S : Int)) (hS : S ≤ 4294967296) (r : Nat) (hr : (S + 7) / 8 = r) :
    Calls Tryz.prog 132 #[.int .i64 b] w fun e w' => e = .returned (.int .i64 r) ∧ w' = w := by
  subst hr
  subst hb
  go_enter Tryz.func132, Tryz.ntmps132
  go_wp2
  go_ret
  exact ⟨I.ret_int (by omega), rfl⟩
/-- The bit at a place, as a number. -/
def bitN (b : List UInt8) (p : Nat) : Nat := if B.bit8 b p then 1 else 0
set_option maxRecDepth 100000 in
theorem bitAt_is (a : Option Addr) (len cap : Nat) (b : List UInt8) (i : Int) (p : Nat) (w : World) (hlen : len = b.length) (hB : Byt w a cap b) (hi : i = (p : Int)) (hbl : b.length ≤ 134217729) (hp : p < 8 * b.length) (r : Nat) (hr : bitN b p = r) :
    Calls Tryz.prog 151 #[.slice a len cap, .int .i64 i] w fun e w' => e = .returned (.int .u8 r) ∧ w' = w := by
  subst hlen
  subst hi
  obtain ⟨bb, off, rfl, hc⟩ := hB.2.2.2 (p / 8) (by omega)
  have hib : (p : Int) / 8 < (b.length : Int) := by omega
  have hcx : w.cell? ⟨bb, off + p / 8, none⟩ = some (.int .u8 (M.bAt b (p / 8))) := hc
  clear hc hB
  have hand : bits .and .u8 ((M.bAt b (p / 8) : Int) / 2 ^ (p % 8)) 1 = (r : Int) := by
    unfold bitN at hr
    cases hb : B.bit8 b p
    · rw [bit8_none hb]; rw [hb] at hr; simp at hr; omega
    · rw [bit8_one hb]; rw [hb] at hr; simp at hr; omega
  clear hr
  go_enter Tryz.func151, Tryz.ntmps151
  go_wp2
  go_ret
  exact ⟨rfl, rfl⟩
end Go.Proofs.YtnmonoafjijfhaaGreat
