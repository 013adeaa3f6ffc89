/-
  Package runs: its Decode over the program. What the statements' walks take of package runs: its two contracts. Slices of strings that come in; a string as bytes of its own. No function of the program here.
-/
import Derived.Test.YtnmonoafjijfhaaGreatM27
import Derived.Test.YtnmonoafjijfhaaGreatM09
import Derived.SliceStrings
namespace Go.Proofs.YtnmonoafjijfhaaGreat
open Go.RowKit
set_option linter.unusedVariables false

/-- One part more: the document's reading goes on behind it, or it is at its end, or it has refused what fills up. -/
theorem read_next {N D : Nat} {b : List UInt8} {O y : List Nat} {k k2 : Nat} (hk : k ≤ b.length) (h : O.length < N) (hp : partR b k (N - O.length) D = (y, k2, 0)) :
    ((O ++ y).length < N → R.read N D b O k = R.read N D b (O ++ y) k2) ∧ (N ≤ (O ++ y).length → R.read N D b O k = ((O ++ y).take N, k2, 0) ∨ R.read N D b O k = ([], 0, 12)) := by
  have hi := item_good hp
  by_cases ha : ((y.drop (N - O.length)).any fun x => x != 0) = true
  · rw [if_pos ha] at hi
    have hbad := R.read_bad (w := D) (b := b) (k := k) h (by rw [hi]; simp)
    rw [hi] at hbad
    refine ⟨fun hl => ?_, fun _ => .inr hbad⟩
    exfalso
    have : y.drop (N - O.length) = [] := List.drop_of_length_le (by simp at hl; omega)
    rw [this] at ha
    simp at ha
  · rw [if_neg ha] at hi
    have hst := R.read_step hk h hi
    refine ⟨fun hl => ?_, fun hl => .inl ?_⟩
    · rw [hst, List.take_of_length_le (by simp at hl; omega)]
    · rw [hst]
      have htk : (O ++ y).take N = O ++ y.take (N - O.length) := by
        rw [List.take_append, List.take_of_length_le (by omega)]
      rw [htk]
      exact R.read_end (by simp at hl ⊢; omega)
/-- What Decode answers behind its loop. -/
theorem read_fin {N D A k : Nat} {b : List UInt8} {O : List Nat} {RES : List Nat × Nat × Nat} (hRES : R.read N D b [] A = RES) (hA : A ≤ k) (hk : k ≤ b.length) (hN : N ≤ 1048576) (hO : N ≤ O.length) (h : RES = (O.take N, k, 0) ∨ RES = ([], 0, 12)) {r : List Nat} {k0 e0 : Nat}
    (hbad : ∀ e, e ≠ 0 → RES = ([], 0, e) → r = [] ∧ k0 = 0 ∧ e0 = e) (hgood : ∀ out k, RES = (out, k, 0) → (if B.width out ≤ D ∧ R.enc D out = (b.drop A).take (k - A) then (out, k, 0) else ([], 0, 12)) = (r, k0, e0)) :
    (if B.width (O.take N) ≤ D ∧ R.enc D (O.take N) = (b.drop A).take (k - A) then (O.take N, k, 0) else ([], 0, 12)) = (r, k0, e0) := by
  rcases h with h | h
  · exact hgood _ _ h
  · obtain ⟨rfl, rfl, rfl⟩ := hbad 12 (by omega) h
    rw [if_neg]
    rintro ⟨h1, h2⟩
    have hl : (O.take N).length = N := by simp; omega
    have hrd := R.read_enc (w := D) N (O.take N) (by omega) (B.fits h1) (by omega) [] (b.take A) (b.drop k) N (by simp; omega)
    have hb : b.take A ++ (R.enc D (O.take N) ++ b.drop k) = b := by
      rw [h2]
      have : b.drop k = (b.drop A).drop (k - A) := by rw [List.drop_drop]; congr 1; omega
      rw [this, List.take_append_drop, List.take_append_drop]
    have ht : (b.take A).length = A := by simp; omega
    rw [hb, ht, hRES, h] at hrd
    simp at hrd
set_option maxRecDepth 100000 in
theorem dec_refuse (a : Option Addr) (cap : Nat) (b : List UInt8) (at' n wd : Int) (w : World) (hcl : b.length ≤ cap) (hcm : cap ≤ maxLen) (E : Nat) (h : (wd < 0 ∨ 32 < wd) ∧ E = 15 ∨ (0 ≤ wd ∧ wd ≤ 32) ∧ (n < 0 ∨ 1048576 < n ∨ at' < 0 ∨ (b.length : Int) < at') ∧ E = 1) :
    Calls Tryz.prog 110 #[.slice a b.length cap, .int .i64 at', .int .i64 n, .int .i64 wd] w fun e w' => ∃ v, e = .returned (.tuple #[v, .int .i64 0, .int .i64 E]) ∧ IsRd n64 [] v w' ∧ Ex w w' := by
  unfold maxLen at hcm
  have fin : ∀ w : World, IsRd n64 [] (.slice none 0 0) w ∧ Ex w w := fun w => ⟨IsRd.nil _, Ex.refl _⟩
  by_cases a1 : 0 ≤ wd ∧ wd ≤ 32
  · have T1 : Hid (decide (0 ≤ wd ∧ wd ≤ 32) = true) := (by simp; omega : decide (0 ≤ wd ∧ wd ≤ 32) = true)
    obtain rfl : E = 1 := by omega
    by_cases a3 : n < 0
    · have t3 : decide (n < 0) = true := by simp; omega
      clear h
      go_enter Tryz.func110, Tryz.ntmps110
      go_wp2_with fail
      refine (isW_is _ _ true T1.out).mono ?_
      rintro e wq ⟨rfl, hw'⟩
      have hw'' := hw'.symm
      clear hw'
      subst hw''
      go_wp2
      go_ret3
      exact ⟨_, rfl, fin _⟩
    · have t3 : decide (n < 0) = false := by simp; omega
      by_cases a4 : 1048576 < n
      · have t4 : decide (1048576 < n) = true := by simp; omega
        clear h
        go_enter Tryz.func110, Tryz.ntmps110
        go_wp2_with fail
        refine (isW_is _ _ true T1.out).mono ?_
        rintro e wq ⟨rfl, hw'⟩
        have hw'' := hw'.symm
        clear hw'
        subst hw''
        go_wp2
        go_ret3
        exact ⟨_, rfl, fin _⟩
      · have t4 : decide (1048576 < n) = false := by simp; omega
        by_cases a5 : at' < 0
        · have t5 : decide (at' < 0) = true := by simp; omega
          clear h
          go_enter Tryz.func110, Tryz.ntmps110
          go_wp2_with fail
          refine (isW_is _ _ true T1.out).mono ?_
          rintro e wq ⟨rfl, hw'⟩
          have hw'' := hw'.symm
          clear hw'
          subst hw''
          go_wp2
          go_ret3
          exact ⟨_, rfl, fin _⟩
        · have t5 : decide (at' < 0) = false := by simp; omega
          have t6 : decide ((b.length : Int) < at') = true := by simp; omega
          clear h
          go_enter Tryz.func110, Tryz.ntmps110
          go_wp2_with fail
          refine (isW_is _ _ true T1.out).mono ?_
          rintro e wq ⟨rfl, hw'⟩
          have hw'' := hw'.symm
          clear hw'
          subst hw''
          go_wp2
          go_ret3
          exact ⟨_, rfl, fin _⟩
  · have T1 : Hid (decide (0 ≤ wd ∧ wd ≤ 32) = false) := (by simp; omega : decide (0 ≤ wd ∧ wd ≤ 32) = false)
    obtain rfl : E = 15 := by omega
    clear h
    go_enter Tryz.func110, Tryz.ntmps110
    go_wp2_with fail
    refine (isW_is _ _ false T1.out).mono ?_
    rintro e wq ⟨rfl, hw'⟩
    have hw'' := hw'.symm
    clear hw'
    subst hw''
    go_wp2
    go_ret3
    exact ⟨_, rfl, fin _⟩

set_option maxRecDepth 100000 in
set_option maxHeartbeats 4000000 in
theorem dec_main (a : Option Addr) (cap : Nat) (b : List UInt8) (A N D : Nat) (w : World) (hB : Byt w a cap b) (hA : A ≤ b.length) (hN : N ≤ 1048576) (hD : D ≤ 32) (hbl : b.length ≤ 140737488355328) (RES : List Nat × Nat × Nat) (hRES : R.read N D b [] A = RES) (r : List Nat) (k0 e0 : Nat)
    (hbad : ∀ e, e ≠ 0 → RES = ([], 0, e) → r = [] ∧ k0 = 0 ∧ e0 = e) (hgood : ∀ out k, RES = (out, k, 0) → (if B.width out ≤ D ∧ R.enc D out = (b.drop A).take (k - A) then (out, k, 0) else ([], 0, 12)) = (r, k0, e0)) :
    Calls Tryz.prog 110 #[.slice a b.length cap, .int .i64 A, .int .i64 N, .int .i64 D] w fun e w' => ∃ v, e = .returned (.tuple #[v, .int .i64 k0, .int .i64 e0]) ∧ IsRd n64 r v w' ∧ Ex w w' := by
  obtain ⟨base, hbase⟩ : ∃ base, base = w.heap.size := ⟨_, rfl⟩
  have HBa : Hid (base = w.heap.size) := hbase
  have HB : Hid (Byt w a cap b) := hB
  have HBad : Hid (∀ e, e ≠ 0 → RES = ([], 0, e) → r = [] ∧ k0 = 0 ∧ e0 = e) := hbad
  have HGood : Hid (∀ out k, RES = (out, k, 0) → (if B.width out ≤ D ∧ R.enc D out = (b.drop A).take (k - A) then (out, k, 0) else ([], 0, 12)) = (r, k0, e0)) := hgood
  have hcl := hB.1
  have hcm := hB.2.1
  unfold maxLen at hcm
  have T1 : Hid (decide (0 ≤ (D : Int) ∧ (D : Int) ≤ 32) = true) := (by simp; omega : decide (0 ≤ (D : Int) ∧ (D : Int) ≤ 32) = true)
  have t3 : decide ((N : Int) < 0) = false := by simp
  have t4 : decide (1048576 < (N : Int)) = false := by simp; omega
  have t5 : decide ((A : Int) < 0) = false := by simp
  have t6 : decide ((b.length : Int) < (A : Int)) = false := by simp; omega
  have t7 : decide (b.length < A) = false := by simp; omega
  have HRES0 : Hid (R.read N D b [] A = RES) := hRES
  have HO0 : Hid (OwnR 69 n64 w base (.slice none 0 0) []) := World.ownsRow_nil w base 69 1
  have HB0 : Hid (Below base w w) := Below.refl _ _
  have H640 : Hid (∀ x ∈ ([] : List Nat), x < 18446744073709551616) := (by intro x hx; simp at hx : ∀ x ∈ ([] : List Nat), x < 18446744073709551616)
  have HG0 : Hid (([] : List Nat).length < N → R.read N D b [] A = RES) := (fun _ => hRES : ([] : List Nat).length < N → R.read N D b [] A = RES)
  have HE0 : Hid (N ≤ ([] : List Nat).length → RES = (([] : List Nat).take N, A, 0) ∨ RES = ([], 0, 12)) := (fun h => .inl (by rw [← hRES, R.read_end h]; simp) : N ≤ ([] : List Nat).length → RES = (([] : List Nat).take N, A, 0) ∨ RES = ([], 0, 12))
  clear hB hbad hgood hRES hbase
  go_enter Tryz.func110, Tryz.ntmps110
  go_wp2_with fail
  refine (isW_is _ _ true T1.out).mono ?_
  rintro e wq ⟨rfl, hw'⟩
  have hw'' := hw'.symm
  clear hw'
  subst hw''
  go_wp2
  go_loopw [11, 12] (fun v i wr => ∃ (O : List Nat) (M k : Nat) (aO : Option Addr) (cO : Nat), M ≤ N + 7 ∧ A ≤ k ∧ k ≤ b.length ∧ i = .int .i64 k ∧ v = .slice aO M cO ∧ Hid (M = O.length) ∧ Hid (O.length < N → R.read N D b O k = RES) ∧ Hid (N ≤ O.length → RES = (O.take N, k, 0) ∨ RES = ([], 0, 12)) ∧ Hid (∀ x ∈ O, x < 18446744073709551616) ∧ Hid (OwnR 69 n64 wr base (.slice aO M cO) O) ∧ Hid (Below base w wr)) (fun v _ _ => N + 8 - lenOf v)
  case atStart => exact ⟨[], 0, A, none, 0, by omega, Nat.le_refl _, hA, rfl, rfl, (rfl : 0 = ([] : List Nat).length), HG0, HE0, H640, HO0, HB0⟩
  case round =>
    obtain ⟨O, M, k, aO, cO, hM7, hAk, hkb, rfl, rfl, HM, HG, HE, H64, HO, HBl⟩ := hrel
    clear HG0 HE0 H640 HO0 HB0
    have hsz : base ≤ wr.heap.size := by rw [HBa.out]; exact HBl.out.size
    have hxw : Ex w wr := by have := HBl.out; rw [HBa.out] at this; exact this
    have HXw : Hid (Ex w wr) := hxw
    have HBw : Hid (Byt wr a cap b) := HB.out.below hxw
    clear hxw
    by_cases hlt : M < N
    · have tm : decide ((M : Int) < (N : Int)) = true := by simp; omega
      have hOl : O.length < N := by have := HM.out; omega
      obtain ⟨L, hL⟩ : ∃ L, L = N - M := ⟨_, rfl⟩
      have hLi : (N : Int) - (M : Int) = (L : Int) := by omega
      have hL2 : N - O.length = L := by have := HM.out; omega
      obtain ⟨⟨y, k2, e⟩, hp⟩ : ∃ p, p = partR b k L D := ⟨_, rfl⟩
      have HP : Hid (partR b k L D = (y, k2, e)) := hp.symm
      by_cases he : e = 0
      · subst he
        have hok := partR_ok hD hkb hp.symm
        have hnx := read_next (N := N) (O := O) hkb hOl (by rw [hL2]; exact hp.symm)
        rw [HG.out hOl] at hnx
        have HG2 : Hid ((O ++ y).length < N → R.read N D b (O ++ y) k2 = RES) := (fun h => (hnx.1 h).symm : (O ++ y).length < N → R.read N D b (O ++ y) k2 = RES)
        have HE2 : Hid (N ≤ (O ++ y).length → RES = ((O ++ y).take N, k2, 0) ∨ RES = ([], 0, 12)) := hnx.2
        have H642 : Hid (∀ x ∈ O ++ y, x < 18446744073709551616) := (fun x hx => by
          rcases List.mem_append.1 hx with h | h
          · exact H64.out x h
          · exact hok.2.2.2.2 x h : ∀ x ∈ O ++ y, x < 18446744073709551616)
        have hyl : 1 ≤ y.length ∧ y.length ≤ L + 7 := ⟨hok.2.2.1, hok.2.2.2.1⟩
        have hk2 : k ≤ k2 ∧ k2 ≤ b.length := ⟨hok.1, hok.2.1⟩
        have HM2 : Hid (M + y.length = (O ++ y).length) := (by rw [List.length_append, ← HM.out] : M + y.length = (O ++ y).length)
        clear hnx hok hp hL hL2
        go_wp2_with fail
        refine (readPart_is _ _ cap b _ _ k L D _ rfl HBw.out hkb hbl rfl rfl (by omega) hD y k2 0 HP.out).mono ?_
        rintro e w2 ⟨v2, rfl, ⟨a2, c2, rfl, hr2⟩, hx2⟩
        have HX2 : Hid (Ex wr w2) := hx2
        have HR2 : Hid (Rd n64 w2 a2 c2 y) := hr2
        have HO2 : Hid (OwnR 69 n64 w2 base (.slice aO M cO) O) := HO.out.later hx2
        have hs2 : base ≤ w2.heap.size := Nat.le_trans hsz hx2.size
        have HB2 : Hid (Below base w w2) := HBl.out.trans (hx2.mono hsz)
        clear hr2 hx2
        go_wp2_with (at_builtin; refine wpList_append_rd (enc := n64) (e := 69) rfl (.tmp 57) (.tmp 58) 77 rfl 0 8 Tryz.underlying77 Tryz.info69 rfl (fun _ => rfl) base _ O rfl HO2.out _ _ _ y rfl rfl HR2.out ?z2 ?z3 hs2 ?_)
        case z2 => have := HM.out; simp [maxLen]; omega
        case z3 => have := HM.out; omega
        intro v3 w3 ho3 hg3
        have HB3 : Hid (Below base w w3) := step_belowR HB2.out hs2 HO2.out hg3
        obtain ⟨a3, c3, rfl, hr3⟩ := ho3.rd
        rw [← HM2.out] at ho3
        have HO3 : Hid (OwnR 69 n64 w3 base (.slice a3 (M + y.length) c3) (O ++ y)) := ho3
        clear ho3 hg3 hr3
        rw [← HM2.out]
        go_wp2
        go_roundw
        case rel => exact ⟨O ++ y, M + y.length, k2, a3, c3, by omega, by omega, hk2.2, rfl, rfl, HM2, HG2, HE2, H642, HO3, HB3⟩
        case measure => simp [lenOf]; omega
      · have hb1 : (partR b k L D).2.2 ≠ 0 := by rw [← hp]; exact he
        have hit := item_bad hb1
        rw [← hp] at hit
        simp only at hit
        have hrb := R.read_bad (w := D) (b := b) (k := k) hOl (by rw [hL2, hit]; exact he)
        rw [hL2, hit, HG.out hOl] at hrb
        have HRES : Hid (RES = ([], 0, e)) := hrb
        have te : ((e : Int) == 0) = false := by simp; omega
        have te2 : decide (e = 0) = false := by simp; omega
        clear hb1 hit hrb hp hL hL2
        go_wp2_with fail
        refine (readPart_is _ _ cap b _ _ k L D _ rfl HBw.out hkb hbl rfl rfl (by omega) hD y k2 e HP.out).mono ?_
        rintro e' w2 ⟨v2, rfl, ⟨a2, c2, rfl, hr2⟩, hx2⟩
        have HX2 : Hid (Ex wr w2) := hx2
        clear hr2 hx2
        go_wp2
        go_ret3
        obtain ⟨rfl, rfl, rfl⟩ := HBad.out e he HRES.out
        exact ⟨_, rfl, IsRd.nil _, HXw.out.trans HX2.out⟩
    · have tm : decide ((M : Int) < (N : Int)) = false := by simp; omega
      have hOl : N ≤ O.length := by have := HM.out; omega
      have hfin := read_fin (O := O) HRES0.out hAk hkb hN hOl (HE.out hOl) HBad.out HGood.out
      obtain ⟨X, hX⟩ : ∃ X, X = O.take N := ⟨_, rfl⟩
      have hXl : N = X.length := by rw [hX]; simp; omega
      have HX64 : Hid (∀ x ∈ X, x < 18446744073709551616) := (fun x hx => H64.out x (List.mem_of_mem_take (by rw [hX] at hx; exact hx)) : ∀ x ∈ X, x < 18446744073709551616)
      have hrd := HO.out.rdS
      have hcO : M ≤ cO := by have := hrd.1; have := HM.out; omega
      have hcO2 : cO ≤ 9223372036854775807 := by have := hrd.2.1; unfold maxLen at this; exact this
      have HRX : Hid (Rd n64 wr aO cO X) := (by rw [hX]; exact hrd.take N : Rd n64 wr aO cO X)
      have hNc : (N : Int) ≤ (cO : Int) := by omega
      rw [← hX] at hfin
      have HXl : Hid (N = X.length) := hXl
      clear hX hXl hrd
      by_cases hwX : B.width X ≤ D
      · obtain ⟨P, hP⟩ : ∃ P, P = R.enc D X := ⟨_, rfl⟩
        have henc : R.encE X (D : Int) = (P, 0) := by unfold R.encE; rw [if_neg (by simp; omega), Int.toNat_natCast, hP]
        rw [← hP] at hfin
        have HEnc : Hid (R.encE X (D : Int) = (P, 0)) := henc
        obtain ⟨S, hS⟩ : ∃ S, S = (b.drop A).take (k - A) := ⟨_, rfl⟩
        have hSl : k - A = S.length := by rw [hS]; simp; omega
        rw [← hS] at hfin
        have hAi : (A : Int) ≤ (k : Int) := by omega
        have hki : (k : Int) ≤ (cap : Int) := by omega
        have HSl : Hid (k - A = S.length) := hSl
        have hsub := HB.out.sub A (k - A) (by omega)
        rw [← hS] at hsub
        have HSub : Hid (Byt w (Option.map (fun x => x.add A) a) (cap - A) S) := hsub
        clear hP henc hS hSl hsub
        by_cases hck : cap = A
        · have hck3 : cap - A = 0 := by omega
          have hck1 : cap ≤ A := by omega
          have hkA : k - A = 0 := by omega
          have HS0 : Hid (0 = S.length) := (by have := HSl.out; omega : 0 = S.length)
          have hS0 : S = [] := List.eq_nil_of_length_eq_zero HS0.out.symm
          have HSE : Hid (S = []) := hS0
          clear hck hS0
          go_wp2_with fail
          refine (enc_own _ _ _ X _ _ HXl.out HRX.out HX64.out (by have := HXl.out; omega) P 0 HEnc.out).mono ?_
          rintro e w2 ⟨v2, rfl, ho2, hx2⟩
          obtain ⟨a2, c2, rfl, hb2⟩ := ho2.byt
          have HX2 : Hid (Ex wr w2) := hx2
          have HP2 : Hid (Byt w2 a2 c2 P) := hb2
          have HS2 : Hid (Byt w2 a 0 S) := (by rw [HSE.out]; exact Byt.none_ a : Byt w2 a 0 S)
          have HRX2 : Hid (Rd n64 w2 aO cO X) := HRX.out.below hx2
          clear ho2 hx2 hb2
          by_cases hPS : P = S
          · rw [if_pos ⟨hwX, hPS⟩] at hfin
            simp only [Prod.mk.injEq] at hfin
            obtain ⟨rfl, rfl, rfl⟩ := hfin
            have TP : Hid (decide (P = S) = true) := (by simpa using hPS : decide (P = S) = true)
            clear hPS
            go_wp2_with fail
            refine (equal_is _ _ _ _ _ _ P S _ HP2.out HS2.out rfl HS0.out true TP.out).mono ?_
            rintro e wq ⟨rfl, hw'⟩
            have hw'' := hw'.symm
            clear hw'
            subst hw''
            go_wp2
            go_ret3
            exact ⟨_, rfl, ⟨aO, cO, by rw [← HXl.out]; rfl, HRX2.out⟩, HXw.out.trans HX2.out⟩
          · rw [if_neg (fun h => hPS h.2)] at hfin
            simp only [Prod.mk.injEq] at hfin
            obtain ⟨rfl, rfl, rfl⟩ := hfin
            have TP : Hid (decide (P = S) = false) := (by simpa using hPS : decide (P = S) = false)
            clear hPS
            go_wp2_with fail
            refine (equal_is _ _ _ _ _ _ P S _ HP2.out HS2.out rfl HS0.out false TP.out).mono ?_
            rintro e wq ⟨rfl, hw'⟩
            have hw'' := hw'.symm
            clear hw'
            subst hw''
            go_wp2
            go_ret3
            exact ⟨_, rfl, IsRd.nil _, HXw.out.trans HX2.out⟩
        · have hck3 : ¬ cap - A = 0 := by omega
          go_wp2_with fail
          refine (enc_own _ _ _ X _ _ HXl.out HRX.out HX64.out (by have := HXl.out; omega) P 0 HEnc.out).mono ?_
          rintro e w2 ⟨v2, rfl, ho2, hx2⟩
          obtain ⟨a2, c2, rfl, hb2⟩ := ho2.byt
          have HX2 : Hid (Ex wr w2) := hx2
          have HP2 : Hid (Byt w2 a2 c2 P) := hb2
          have HS2 : Hid (Byt w2 (Option.map (fun x => x.add A) a) (cap - A) S) := (HSub.out.below (HXw.out.trans hx2))
          have HRX2 : Hid (Rd n64 w2 aO cO X) := HRX.out.below hx2
          clear ho2 hx2 hb2
          by_cases hPS : P = S
          · rw [if_pos ⟨hwX, hPS⟩] at hfin
            simp only [Prod.mk.injEq] at hfin
            obtain ⟨rfl, rfl, rfl⟩ := hfin
            have TP : Hid (decide (P = S) = true) := (by simpa using hPS : decide (P = S) = true)
            clear hPS
            go_wp2_with fail
            refine (equal_is _ _ _ _ _ _ P S _ HP2.out HS2.out rfl HSl.out true TP.out).mono ?_
            rintro e wq ⟨rfl, hw'⟩
            have hw'' := hw'.symm
            clear hw'
            subst hw''
            go_wp2
            go_ret3
            exact ⟨_, rfl, ⟨aO, cO, by rw [← HXl.out]; rfl, HRX2.out⟩, HXw.out.trans HX2.out⟩
          · rw [if_neg (fun h => hPS h.2)] at hfin
            simp only [Prod.mk.injEq] at hfin
            obtain ⟨rfl, rfl, rfl⟩ := hfin
            have TP : Hid (decide (P = S) = false) := (by simpa using hPS : decide (P = S) = false)
            clear hPS
            go_wp2_with fail
            refine (equal_is _ _ _ _ _ _ P S _ HP2.out HS2.out rfl HSl.out false TP.out).mono ?_
            rintro e wq ⟨rfl, hw'⟩
            have hw'' := hw'.symm
            clear hw'
            subst hw''
            go_wp2
            go_ret3
            exact ⟨_, rfl, IsRd.nil _, HXw.out.trans HX2.out⟩
      · have henc : R.encE X (D : Int) = ([], 15) := by unfold R.encE; rw [if_pos (by simp; omega)]
        have HEnc : Hid (R.encE X (D : Int) = ([], 15)) := henc
        rw [if_neg (by omega)] at hfin
        simp only [Prod.mk.injEq] at hfin
        obtain ⟨rfl, rfl, rfl⟩ := hfin
        clear henc
        go_wp2_with fail
        refine (enc_own _ _ _ X _ _ HXl.out HRX.out HX64.out (by have := HXl.out; omega) [] 15 HEnc.out).mono ?_
        rintro e w2 ⟨v2, rfl, ho2, hx2⟩
        have HX2 : Hid (Ex wr w2) := hx2
        clear ho2 hx2
        go_wp2
        go_ret3
        exact ⟨_, rfl, IsRd.nil _, HXw.out.trans HX2.out⟩
/-- Decode. -/
theorem dec_any (a : Option Addr) (len cap : Nat) (b : List UInt8) (at' n wd : Int) (w : World) (hlen : len = b.length) (hB : Byt w a cap b) (hbl : b.length ≤ 140737488355328) (r : List Nat) (k0 e0 : Nat) (hr : R.dec b at' n wd = (r, k0, e0)) :
    Calls Tryz.prog 110 #[.slice a len cap, .int .i64 at', .int .i64 n, .int .i64 wd] w fun e w' => ∃ v, e = .returned (.tuple #[v, .int .i64 k0, .int .i64 e0]) ∧ IsRd n64 r v w' ∧ Ex w w' := by
  subst hlen
  unfold R.dec at hr
  by_cases h1 : wd < 0 ∨ 32 < wd
  · rw [if_pos h1] at hr
    simp only [Prod.mk.injEq] at hr
    obtain ⟨rfl, rfl, rfl⟩ := hr
    exact dec_refuse a cap b at' n wd w hB.1 hB.2.1 15 (.inl ⟨h1, rfl⟩)
  · rw [if_neg h1] at hr
    by_cases h2 : n < 0 ∨ 1048576 < n ∨ at' < 0 ∨ (b.length : Int) < at'
    · rw [if_pos h2] at hr
      simp only [Prod.mk.injEq] at hr
      obtain ⟨rfl, rfl, rfl⟩ := hr
      exact dec_refuse a cap b at' n wd w hB.1 hB.2.1 1 (.inr ⟨by omega, h2, rfl⟩)
    · rw [if_neg h2] at hr
      obtain ⟨N, rfl⟩ := Int.eq_ofNat_of_zero_le (show 0 ≤ n by omega)
      obtain ⟨D, rfl⟩ := Int.eq_ofNat_of_zero_le (show 0 ≤ wd by omega)
      obtain ⟨A, rfl⟩ := Int.eq_ofNat_of_zero_le (show 0 ≤ at' by omega)
      simp only [Int.toNat_natCast] at hr
      obtain ⟨RES, hRES⟩ : ∃ RES, R.read N D b [] A = RES := ⟨_, rfl⟩
      rw [hRES] at hr
      refine dec_main a cap b A N D w hB (by omega) (by omega) (by omega) hbl RES hRES r k0 e0 ?_ ?_
      · intro e he hR
        rw [hR] at hr
        simp only at hr
        rw [if_pos he] at hr
        simp only [Prod.mk.injEq] at hr
        exact ⟨hr.1.symm, hr.2.1.symm, hr.2.2.symm⟩
      · intro out k hR
        rw [hR] at hr
        simp only [ne_eq, not_true_eq_false, if_false] at hr
        exact hr
end Go.Proofs.YtnmonoafjijfhaaGreat
namespace Go.Proofs.YtnmonoafjijfhaaGreat
open Go.RowKit
set_option linter.unusedVariables false
theorem ruenc_is (a : Option Addr) (n cap : Nat) (l : List Nat) (wd : Int) (w : World) (hn : n = l.length) (hB : Rd n64 w a cap l) (h64 : ∀ x ∈ l, x < 18446744073709551616) (hl : l.length ≤ 2000000) (r : List UInt8) (e0 : Nat) (hr : R.encE l wd = (r, e0)) :
    Calls Tryz.prog 64 #[.slice a n cap, .int .i64 wd] w fun e w' => ∃ v, e = .returned (.tuple #[v, .int .i64 e0]) ∧ IsByt r v w' ∧ Ex w w' :=
  (enc_own a n cap l wd w hn hB h64 hl r e0 hr).mono fun e w' ⟨v, h1, h2, h3⟩ => ⟨v, h1, h2.isByt, h3⟩
theorem rudec_is (a : Option Addr) (len cap : Nat) (b : List UInt8) (at' n wd : Int) (w : World) (hlen : len = b.length) (hB : Byt w a cap b) (hbl : b.length ≤ 140737488355328) (r : List Nat) (k0 e0 : Nat) (hr : R.dec b at' n wd = (r, k0, e0)) :
    Calls Tryz.prog 110 #[.slice a len cap, .int .i64 at', .int .i64 n, .int .i64 wd] w fun e w' => ∃ v, e = .returned (.tuple #[v, .int .i64 k0, .int .i64 e0]) ∧ IsRd n64 r v w' ∧ Ex w w' := dec_any a len cap b at' n wd w hlen hB hbl r k0 e0 hr
end Go.Proofs.YtnmonoafjijfhaaGreat
namespace Go.Proofs.YtnmonoafjijfhaaGreat
open Go.RowKit
set_option linter.unusedVariables false

abbrev st : List UInt8 → Value := fun s => .string (str s)
end Go.Proofs.YtnmonoafjijfhaaGreat
