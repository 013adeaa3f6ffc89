/-
  The contract of the document's own Decode (layer 5) over the program.
-/
import Derived.Test.YtnmonoafjijfhaaGreatM21
import Derived.Test.YtnmonoafjijfhaaGreatM22
import Derived.Test.YtnmonoafjijfhaaGreatM24
namespace Go.Proofs.YtnmonoafjijfhaaGreat
open Go.RowKit
set_option linter.unusedVariables false

theorem le_snoc {b : List UInt8} {m i : Nat} (h : m + i < b.length) : R.le ((b.drop m).take (i + 1)) = R.le ((b.drop m).take i) ||| (M.bAt b (m + i) * 2 ^ (8 * i)) := by
  have hi : i < (b.drop m).length := by simp; omega
  have hlt := R.le_lt ((b.drop m).take i)
  have hl : ((b.drop m).take i).length = i := by simp; omega
  rw [hl] at hlt
  have e : (256 : Nat) ^ i = 2 ^ (8 * i) := by rw [Nat.pow_mul]
  rw [e] at hlt
  rw [List.take_succ_eq_append_getElem hi, R.le_append, hl, e]
  have hb : R.le [(b.drop m)[i]] = M.bAt b (m + i) := by
    simp [R.le, M.bAt, h]
  rw [hb, Nat.or_comm, Nat.mul_comm (M.bAt b (m + i)), ← Nat.two_pow_add_eq_or_of_lt hlt]
  omega
theorem unp_whole {D c : Nat} {p : List UInt8} (hD : D ≤ 64) (hc : 8 * c ≤ 16777216) (hp : p.length = c * D) : B.unp p ((8 * c : Nat) : Int) (D : Int) = (B.unpack D (8 * c) p, 0) := by
  have hsz : B.size (8 * c) D = c * D := by
    unfold B.size
    rw [show 8 * c * D = 8 * (c * D) by rw [Nat.mul_assoc]]; omega
  unfold B.unp
  rw [if_neg (by omega), if_neg (by omega)]
  simp only [Int.toNat_natCast]
  rw [if_neg (by omega), if_neg (by omega), if_neg]
  have : B.left D (8 * c) p = false := B.left_false.2 fun q h1 h2 => by
    rw [show 8 * c * D = 8 * (c * D) by rw [Nat.mul_assoc]] at h1; omega
  simp [this]

set_option maxRecDepth 100000 in
set_option maxHeartbeats 4000000 in
theorem rdec_main (a : Option Addr) (cap : Nat) (b : List UInt8) (A N D : Nat) (w : World) (hB : Byt w a cap b) (hA : A ≤ b.length) (hN : N ≤ 1048576) (hD : D ≤ 32) (hbl : b.length ≤ 140737488355328) (RES : List Nat × Nat × Nat) (hRES : R.read N D b [] A = RES) (r : List Nat) (k0 e0 : Nat)
    (hbad : ∀ e, e ≠ 0 → RES = ([], 0, e) → r = [] ∧ k0 = 0 ∧ e0 = e) (hgood : ∀ out k, RES = (out, k, 0) → (if B.width out ≤ D ∧ R.enc D out = (b.drop A).take (k - A) then (out, k, 0) else ([], 0, 12)) = (r, k0, e0)) :
    Calls Tryz.prog 49 #[.slice a b.length cap, .int .i64 A, .int .i64 N, .int .i64 D] w fun e w' => ∃ v, e = .returned (.tuple #[v, .int .i64 k0, .int .i64 e0]) ∧ IsRd n64 r v w' ∧ Ex w w' := by
  obtain ⟨base, hbase⟩ : ∃ base, base = w.heap.size := ⟨_, rfl⟩
  have HBa : Hid (base = w.heap.size) := hbase
  have HB : Hid (Byt w a cap b) := hB
  have HBad : Hid (∀ e, e ≠ 0 → RES = ([], 0, e) → r = [] ∧ k0 = 0 ∧ e0 = e) := hbad
  have HGood : Hid (∀ out k, RES = (out, k, 0) → (if B.width out ≤ D ∧ R.enc D out = (b.drop A).take (k - A) then (out, k, 0) else ([], 0, 12)) = (r, k0, e0)) := hgood
  have hcl := hB.1
  have hcm := hB.2.1
  unfold maxLen at hcm
  have t1 : decide ((D : Int) < 0) = false := by simp
  have t2 : decide (32 < (D : Int)) = false := by simp; omega
  have t3 : decide ((N : Int) < 0) = false := by simp
  have t4 : decide (1048576 < (N : Int)) = false := by simp; omega
  have t5 : decide ((A : Int) < 0) = false := by simp
  have t6 : decide ((b.length : Int) < (A : Int)) = false := by simp; omega
  have t7 : decide (b.length < A) = false := by simp; omega
  have HRES0 : Hid (R.read N D b [] A = RES) := hRES
  have HO0 : Hid (OwnR 69 n64 w base (.slice none 0 0) []) := World.ownsRow_nil w base 69 1
  have HB0 : Hid (Below base w w) := Below.refl _ _
  have H640 : Hid (∀ x ∈ ([] : List Nat), x < 18446744073709551616) := (by intro x hx; simp at hx : ∀ x ∈ ([] : List Nat), x < 18446744073709551616)
  clear hB hbad hgood hRES hbase
  go_enter Tryz.func49, Tryz.ntmps49
  go_wp2
  go_loopw [11, 12] (fun v i wr => ∃ (out : List Nat) (k : Nat), out.length ≤ N ∧ A ≤ k ∧ k ≤ b.length ∧ i = .int .i64 k ∧ Hid (R.read N D b out k = RES) ∧ Hid (∀ x ∈ out, x < 18446744073709551616) ∧ Hid (OwnR 69 n64 wr base v out) ∧ Hid (Below base w wr)) (fun v _ _ => N - (match v with | .slice _ n _ => n | _ => 0))
  case atStart => exact ⟨[], A, by simp, by omega, hA, rfl, HRES0, H640, HO0, HB0⟩
  case round =>
    obtain ⟨out, k, hoN, hAk, hkb, rfl, HR0, H64, HO, HBl⟩ := hrel
    clear HRES0 HO0 HB0 H640
    obtain ⟨mo, hmo⟩ : ∃ mo, mo = out.length := ⟨_, rfl⟩
    obtain ⟨ao, co, hv, hrd⟩ := HO.out.rd
    rw [← hmo] at hv hoN
    subst hv
    have HMo : Hid (mo = out.length) := hmo
    have HRo : Hid (Rd n64 wr ao co out) := hrd
    have hbs : base ≤ wr.heap.size := by rw [HBa.out]; exact HBl.out.size
    have HBw : Hid (Byt wr a cap b) := HB.out.below (by have := HBl.out; rw [HBa.out] at this; exact this)
    clear hmo hrd
    by_cases hlt : mo < N
    · have tn : decide ((mo : Int) < (N : Int)) = true := by simp; omega
      have tn2 : decide (mo < N) = true := by simp; omega
      obtain ⟨hd, m, e, hget⟩ : ∃ hd m e, M.get b k = (hd, m, e) := ⟨_, _, _, rfl⟩
      have hga := M.get_all b k
      have hgf := R.get_fwd (b := b) hkb
      have hbd := R.read_bad (n := N) (w := D) (b := b) (out := out) (k := k) (by rw [← HMo.out]; exact hlt)
      have hst := fun x k' => @R.read_step N D b out k hkb (by rw [← HMo.out]; exact hlt) x k'
      rw [← HMo.out] at hbd hst
      rw [HR0.out] at hbd hst
      obtain ⟨L, hL⟩ : ∃ L, L = N - mo := ⟨_, rfl⟩
      have hLi : (N : Int) - (mo : Int) = (L : Int) := by omega
      have hL1 : 1 ≤ L := by omega
      have hL2 : L ≤ 1048576 := by omega
      rw [← hL] at hbd hst
      have HL : Hid (L = N - mo) := hL
      rw [hget] at hga hgf
      simp only at hga hgf
      have HGet : Hid (M.get b k = (hd, m, e)) := hget
      unfold R.item at hbd hst
      simp only [hget] at hbd hst
      by_cases he : e = 0
      · subst he
        obtain ⟨hkm, hmb⟩ := hgf rfl
        have te : ((0 : Int) != 0) = false := rfl
        rw [if_neg (by simp)] at hbd hst
        obtain ⟨c, hc⟩ : ∃ c, c = hd / 2 := ⟨_, rfl⟩
        have hci : (hd : Int) / 2 = (c : Int) := by omega
        have hcb : c < 9223372036854775808 := by omega
        rw [← hc] at hbd hst
        have HC : Hid (c = hd / 2) := hc
        clear hget hga hgf hL hc
        by_cases hev : hd % 2 = 0
        · have tev : ((hd : Int) % 2 == 0) = true := by simp; omega
          rw [if_pos hev] at hbd hst
          obtain ⟨z, hz⟩ : ∃ z, z = (D + 7) / 8 := ⟨_, rfl⟩
          have hzi : ((D : Int) + 7) / 8 = (z : Int) := by omega
          have hz4 : z ≤ 4 := by omega
          rw [← hz] at hbd hst
          by_cases hze : b.length - m < z
          · rw [if_pos hze] at hbd
            have tz : decide ((b.length : Int) - (m : Int) < (z : Int)) = true := by simp; omega
            have HRES : Hid (RES = ([], 0, 10)) := hbd (by simp)
            clear hbd hst hz
            go_wp2_with fail
            refine (rget_is a _ cap b _ _ hd m 0 HGet.out HBw.out rfl).mono ?_
            rintro e wq ⟨rfl, hw'⟩
            have hw'' := hw'.symm
            clear hw'
            subst hw''
            go_wp2
            go_ret3
            obtain ⟨rfl, rfl, rfl⟩ := HBad.out 10 (by omega) HRES.out
            exact ⟨_, rfl, IsRd.nil _, by have := HBl.out; rw [HBa.out] at this; exact this⟩
          · rw [if_neg hze] at hbd hst
            have tz : decide ((b.length : Int) - (m : Int) < (z : Int)) = false := by simp; omega
            have HZ : Hid (z = (D + 7) / 8) := hz
            clear hz
            go_wp2_with fail
            refine (rget_is a _ cap b _ _ hd m 0 HGet.out HBw.out rfl).mono ?_
            rintro e wq ⟨rfl, hw'⟩
            have hw'' := hw'.symm
            clear hw'
            subst hw''
            have HBD : Hid (_) := hbd
            have HST : Hid (_) := hst
            clear hbd hst
            go_wp2
            go_loop [19, 20] (fun v i => ∃ j X : Nat, j ≤ z ∧ i = .int .i64 j ∧ v = .int .u64 X ∧ Hid (X = R.le ((b.drop m).take j))) (fun _ i => z - (intOf i).toNat)
            case atStart => exact ⟨0, 0, by omega, rfl, rfl, (by simp [R.le] : 0 = R.le ((b.drop m).take 0))⟩
            case round =>
              obtain ⟨j, X, hj, rfl, rfl, HX⟩ := hrel
              have hX64 : X < 18446744073709551616 := by
                rw [HX.out]
                have h1 := R.le_lt ((b.drop m).take j)
                have h2 : ((b.drop m).take j).length ≤ 4 := by simp; omega
                have h3 : 256 ^ ((b.drop m).take j).length ≤ 256 ^ 4 := Nat.pow_le_pow_right (by decide) h2
                omega
              by_cases hjz : j < z
              · obtain ⟨bb, off, rfl, hcell⟩ := HBw.out.2.2.2 (m + j) (by omega)
                have hcx : wr.cell? ⟨bb, off + (m + j), none⟩ = some (.int .u8 (M.bAt b (m + j) : Int)) := hcell
                have hB8 := M.bAt_lt b (m + j)
                have hsn := le_snoc (b := b) (m := m) (i := j) (by omega)
                rw [← HX.out] at hsn
                obtain ⟨y, hy⟩ : ∃ y, y = M.bAt b (m + j) := ⟨_, rfl⟩
                rw [← hy] at hcx hB8 hsn
                obtain ⟨t8, ht8⟩ : ∃ t8, t8 = 8 * j := ⟨_, rfl⟩
                have ht8i : (8 : Int) * (j : Int) = (t8 : Int) := by omega
                rw [← ht8] at hsn
                have ht9 : t8 ≤ 24 := by omega
                obtain ⟨sh, hsh⟩ : ∃ sh, sh = y * 2 ^ t8 := ⟨_, rfl⟩
                rw [← hsh] at hsn
                have h2t : 2 ^ t8 ≤ 2 ^ 24 := Nat.pow_le_pow_right (by decide) ht9
                have hshb : sh ≤ 255 * 2 ^ 24 := by rw [hsh]; exact Nat.mul_le_mul (by omega) h2t
                have hshi : (y : Int) * 2 ^ t8 % 18446744073709551616 = (sh : Int) := by
                  have e : (y : Int) * 2 ^ t8 = ((y * 2 ^ t8 : Nat) : Int) := by simp
                  rw [e, ← hsh]; omega
                obtain ⟨Y, hY⟩ : ∃ Y, Y = X ||| sh := ⟨_, rfl⟩
                have hor : bits .or .u64 (X : Int) (sh : Int) = (Y : Int) := by rw [hY]; exact (bits_nat .u64 64 (by decide) I.wraps64 X sh (by omega) (by omega)).2
                have HY : Hid (Y = R.le ((b.drop m).take (j + 1))) := (by rw [hY, hsn] : Y = R.le ((b.drop m).take (j + 1)))
                have HSh : Hid (IntKind.u64.wrap ((y : Int) * 2 ^ t8) = (sh : Int)) := (by rw [I.w64]; exact hshi : IntKind.u64.wrap ((y : Int) * 2 ^ t8) = (sh : Int))
                have HOr : Hid (bits .or .u64 (X : Int) (sh : Int) = (Y : Int)) := hor
                have hix : (m : Int) + (j : Int) < (b.length : Int) := by omega
                have tj : decide ((j : Int) < (z : Int)) = true := by simp; omega
                clear hcell hy hsn ht8 hsh hY h2t hor hshi
                go_wp2
                go_round
                case rel => exact ⟨j + 1, Y, by omega, by go_num, by rw [HSh.out, HOr.out], HY⟩
                case measure => simp [intOf]; omega
              · obtain rfl : j = z := by omega
                have hbd := HBD.out
                have hst := HST.out
                rw [← HX.out] at hst
                have tj : decide ((j : Int) < (j : Int)) = false := by simp
                by_cases hc0 : c = 0
                · rw [if_pos (.inl hc0)] at hbd
                  have HRES : Hid (RES = ([], 0, 12)) := hbd (by simp)
                  have tc : ((c : Int) == 0) = true := by simp; omega
                  clear hbd hst
                  go_wp2
                  go_ret3
                  obtain ⟨rfl, rfl, rfl⟩ := HBad.out 12 (by omega) HRES.out
                  exact ⟨_, rfl, IsRd.nil _, by have := HBl.out; rw [HBa.out] at this; exact this⟩
                · have tc : ((c : Int) == 0) = false := by simp; omega
                  by_cases hcL : L < c
                  · rw [if_pos (.inr hcL)] at hbd
                    have HRES : Hid (RES = ([], 0, 12)) := hbd (by simp)
                    have tc2 : decide (L < c) = true := by simp; omega
                    have tc3 : decide ((L : Int) < (c : Int)) = true := by simp; omega
                    clear hbd hst
                    go_wp2
                    go_ret3
                    obtain ⟨rfl, rfl, rfl⟩ := HBad.out 12 (by omega) HRES.out
                    exact ⟨_, rfl, IsRd.nil _, by have := HBl.out; rw [HBa.out] at this; exact this⟩
                  · rw [if_neg (by omega)] at hst
                    have HNX : Hid (R.read N D b (out ++ List.replicate c X) (m + j) = RES) := (hst _ _ rfl).symm
                    have tc2 : decide (L < c) = false := by simp; omega
                    have tc3 : decide ((L : Int) < (c : Int)) = false := by simp; omega
                    have HO1 : Hid (OwnR 69 n64 wr base (.slice ao mo co) (out ++ List.replicate 0 X)) := (by simpa using HO.out : OwnR 69 n64 wr base (.slice ao mo co) (out ++ List.replicate 0 X))
                    clear hbd hst
                    go_wp2
                    go_loopw [11, 16] (fun v i wr => ∃ t ct : Nat, t + ct ≤ c ∧ c ≤ t + ct ∧ i = .int .u64 ct ∧ Hid (OwnR 69 n64 wr base v (out ++ List.replicate t X)) ∧ Hid (Below base w wr)) (fun _ i _ => (intOf i).toNat)
                    case atStart => exact ⟨0, c, by omega, by omega, rfl, HO1, HBl⟩
                    case round =>
                      obtain ⟨t, ct, h1, h2, rfl, HOt, HBt⟩ := hrel
                      clear HO1
                      have hbt : base ≤ wr.heap.size := by rw [HBa.out]; exact HBt.out.size
                      obtain ⟨mt, hmt⟩ : ∃ mt, mt = (out ++ List.replicate t X).length := ⟨_, rfl⟩
                      have hml : mt ≤ mo + t ∧ mo + t ≤ mt := by have := HMo.out; rw [hmt]; simp; omega
                      obtain ⟨at', ct', hv, _⟩ := HOt.out.rd
                      rw [← hmt] at hv
                      subst hv
                      have HMt : Hid (mt = (out ++ List.replicate t X).length) := hmt
                      clear hmt
                      by_cases hct : 0 < ct
                      · have tt : decide (0 < ct) = true := by simp; omega
                        have tt2 : decide (0 < (ct : Int)) = true := by simp; omega
                        have HRL : Hid (Rd n64 (wr.alloc (.cells #[.int .u64 (X : Int)] 69)) (some ⟨wr.heap.size, 0, none⟩) 1 [X]) := Rd.laid (enc := n64) wr 69 [X] (by simp)
                        go_wp2_with (at_builtin; refine wpList_append_rd (enc := n64) (e := 69) rfl (.tmp 115) (.tmp 117) 77 rfl 0 8 Tryz.underlying77 Tryz.info69 rfl (fun _ => rfl) base _ _ rfl (HOt.out.alloc _) _ _ _ [X] rfl rfl HRL.out ?y2 ?y3 ?y4 ?_)
                        case y2 => have := HMt.out; simp [maxLen] at this ⊢; omega
                        case y3 => have := HMt.out; simp at this ⊢; omega
                        case y4 => simp; omega
                        intro v4 w4 ho4 hg4
                        have HB4 : Hid (Below base w w4) := step_belowR (HBt.out.alloc hbt _) (by simp; omega) (HOt.out.alloc _) hg4
                        have HO4 : Hid (OwnR 69 n64 w4 base v4 (out ++ List.replicate (t + 1) X)) := (by
                          rw [List.replicate_succ']; simpa using ho4 : OwnR 69 n64 w4 base v4 (out ++ List.replicate (t + 1) X))
                        clear ho4 hg4
                        go_wp2
                        go_roundw
                        case rel => exact ⟨t + 1, ct - 1, by omega, by omega, by go_num, HO4, HB4⟩
                        case measure => simp [intOf]; omega
                      · have tt : decide (0 < ct) = false := by simp; omega
                        have tt2 : decide (0 < (ct : Int)) = false := by simp; omega
                        have htc : t = c := by omega
                        have HOc : Hid (OwnR 69 n64 wr base (.slice at' mt ct') (out ++ List.replicate c X)) := (by rw [← htc]; exact HOt.out : OwnR 69 n64 wr base (.slice at' mt ct') (out ++ List.replicate c X))
                        have H64c : Hid (∀ x ∈ out ++ List.replicate c X, x < 18446744073709551616) := (by
                          intro x hx
                          rcases List.mem_append.1 hx with h | h
                          · exact H64.out x h
                          · rw [List.eq_of_mem_replicate h]; exact hX64 : ∀ x ∈ out ++ List.replicate c X, x < 18446744073709551616)
                        have hlenc : (out ++ List.replicate c X).length ≤ N := by have := HMo.out; have := HL.out; simp; omega
                        have hmN : mo < mt := by omega
                        clear htc
                        go_wp2
                        go_roundw
                        case rel => exact ⟨_, m + j, hlenc, by omega, by omega, by go_num, HNX, H64c, HOc, HBt⟩
                        case measure => simp; omega
        · have tev : ((hd : Int) % 2 == 0) = false := by simp; omega
          rw [if_neg hev] at hbd hst
          obtain ⟨L8, hL8d⟩ : ∃ L8, L8 = (L + 7) / 8 := ⟨_, rfl⟩
          rw [← hL8d] at hbd hst
          have hL81 : 8 * L8 ≤ L + 7 := by omega
          have hL82 : L + 7 < 8 * L8 + 8 := by omega
          by_cases hD0 : 0 < D
          · have tD : decide (0 < (D : Int)) = true := by simp; omega
            have tD0 : ((D : Int) == 0) = false := by simp; omega
            obtain ⟨R1, hR1⟩ : ∃ R1, R1 = b.length - m := ⟨_, rfl⟩
            have hR1i : (b.length : Int) - (m : Int) = (R1 : Int) := by omega
            obtain ⟨Qn, hQn⟩ : ∃ Qn, Qn = R1 / D := ⟨_, rfl⟩
            have hQi : (R1 : Int) / (D : Int) = (Qn : Int) := by rw [hQn]; simp
            have hQb : Qn ≤ R1 := by rw [hQn]; exact Nat.div_le_self _ _
            rw [← hR1, ← hQn] at hbd hst
            by_cases hq : Qn < c
            · rw [if_pos ⟨hD0, hq⟩] at hbd
              have HRES : Hid (RES = ([], 0, 10)) := hbd (by simp)
              have tq : decide (Qn < c) = true := by simp; omega
              have tq2 : decide ((Qn : Int) < (c : Int)) = true := by simp; omega
              clear hbd hst hR1 hQn hL8d
              go_wp2_with fail
              refine (rget_is _ _ cap b _ _ hd m 0 HGet.out HBw.out rfl).mono ?_
              rintro e wq ⟨rfl, hw'⟩
              have hw'' := hw'.symm
              clear hw'
              subst hw''
              go_wp2
              go_ret3
              obtain ⟨rfl, rfl, rfl⟩ := HBad.out 10 (by omega) HRES.out
              exact ⟨_, rfl, IsRd.nil _, by have := HBl.out; rw [HBa.out] at this; exact this⟩
            · rw [if_neg (by omega)] at hbd hst
              have tq : decide (Qn < c) = false := by simp; omega
              have tq2 : decide ((Qn : Int) < (c : Int)) = false := by simp; omega
              have hcw : c * D ≤ b.length - m := by
                rw [← hR1]; exact (Nat.le_div_iff_mul_le hD0).1 (by rw [← hQn]; omega)
              clear hR1 hQn hL8d
              by_cases hc0 : c = 0
              · rw [if_pos (.inl hc0)] at hbd
                have HRES : Hid (RES = ([], 0, 12)) := hbd (by simp)
                have tc : ((c : Int) == 0) = true := by simp; omega
                clear hbd hst
                go_wp2_with fail
                refine (rget_is _ _ cap b _ _ hd m 0 HGet.out HBw.out rfl).mono ?_
                rintro e wq ⟨rfl, hw'⟩
                have hw'' := hw'.symm
                clear hw'
                subst hw''
                go_wp2
                go_ret3
                obtain ⟨rfl, rfl, rfl⟩ := HBad.out 12 (by omega) HRES.out
                exact ⟨_, rfl, IsRd.nil _, by have := HBl.out; rw [HBa.out] at this; exact this⟩
              · have tc : ((c : Int) == 0) = false := by simp; omega
                have hL8 : ((L : Int) + 7) / 8 = ((L8 : Nat) : Int) := by omega
                by_cases hcL : L8 < c
                · rw [if_pos (.inr hcL)] at hbd
                  have HRES : Hid (RES = ([], 0, 12)) := hbd (by simp)
                  have tc2 : decide (L8 < c) = true := by simp; omega
                  have tc3 : decide ((L8 : Int) < (c : Int)) = true := by simp; omega
                  clear hbd hst
                  go_wp2_with fail
                  refine (rget_is _ _ cap b _ _ hd m 0 HGet.out HBw.out rfl).mono ?_
                  rintro e wq ⟨rfl, hw'⟩
                  have hw'' := hw'.symm
                  clear hw'
                  subst hw''
                  go_wp2
                  go_ret3
                  obtain ⟨rfl, rfl, rfl⟩ := HBad.out 12 (by omega) HRES.out
                  exact ⟨_, rfl, IsRd.nil _, by have := HBl.out; rw [HBa.out] at this; exact this⟩
                · rw [if_neg (by omega)] at hbd hst
                  have tc2 : decide (L8 < c) = false := by simp; omega
                  have tc3 : decide ((L8 : Int) < (c : Int)) = false := by simp; omega
                  obtain ⟨part, hpart⟩ : ∃ part, part = (b.drop m).take (c * D) := ⟨_, rfl⟩
                  obtain ⟨S, hS⟩ : ∃ S, S = c * D := ⟨_, rfl⟩
                  have hSi : (c : Int) * (D : Int) = (S : Int) := by rw [hS]; simp
                  have hSb : S ≤ b.length - m := by rw [hS]; exact hcw
                  have hSm : S ≤ 200000 * 32 := by rw [hS]; exact Nat.mul_le_mul (by omega) hD
                  have hpl : part.length = S := by rw [hpart, ← hS]; simp; omega
                  obtain ⟨X, hX⟩ : ∃ X, X = B.unpack D (8 * c) part := ⟨_, rfl⟩
                  have hXl : X.length = 8 * c := by rw [hX]; exact B.unpack_len _ _ _
                  have hun := unp_whole (D := D) (c := c) (p := part) (by omega) (by omega) (by rw [hpl, hS])
                  rw [← hX] at hun
                  rw [← hpart, ← hX] at hbd hst
                  rw [← hS] at hst
                  obtain ⟨c8, hc8⟩ : ∃ c8, c8 = 8 * c := ⟨_, rfl⟩
                  have hc8i : (8 : Int) * (c : Int) = (c8 : Int) := by omega
                  rw [← hc8] at hun
                  have hmi : (m : Int) ≤ (m : Int) + (S : Int) := by omega
                  have hb1 : 0 < b.length := by omega
                  obtain ⟨bb, off, rfl, _⟩ := HBw.out.2.2.2 0 hb1
                  have hsub := HBw.out.sub m S (by omega)
                  rw [Option.map_some, add_none, hS, ← hpart] at hsub
                  have HSub : Hid (Byt wr (some ⟨bb, off + m, none⟩) (cap - m) part) := hsub
                  have HPl : Hid (part.length = S) := hpl
                  have HUn : Hid (B.unp part ((c8 : Nat) : Int) (D : Int) = (X, 0)) := hun
                  have HXl : Hid (X.length = 8 * c) := hXl
                  have HBD : Hid (_) := hbd
                  have HST : Hid (_) := hst
                  have hX64 : ∀ x ∈ X, x < 18446744073709551616 := fun x hx => by
                    rw [hX] at hx
                    unfold B.unpack at hx
                    obtain ⟨i, _, rfl⟩ := List.mem_map.1 hx
                    have h1 := B.num_lt (fun t => B.bit8 part (i * D + t)) D
                    have h2 : 2 ^ D ≤ 2 ^ 32 := Nat.pow_le_pow_right (by decide) hD
                    omega
                  have HX64 : Hid (∀ x ∈ X, x < 18446744073709551616) := hX64
                  have hc8b : c8 ≤ 1048584 := by omega
                  have hc81 : 8 * c ≤ c8 ∧ c8 ≤ 8 * c := by omega
                  clear hbd hst hpart hS hpl hX hXl hun hc8 hsub hX64
                  go_wp2_with fail
                  refine (rget_is _ _ cap b _ _ hd m 0 HGet.out HBw.out rfl).mono ?_
                  rintro e wq ⟨rfl, hw'⟩
                  have hw'' := hw'.symm
                  clear hw'
                  subst hw''
                  go_wp2_with fail
                  refine (runpack_any (some ⟨bb, off + m, none⟩) _ (cap - m) part _ _ _ (by have := HPl.out; omega) HSub.out (by have := HPl.out; omega) (by omega) (by omega) (by omega) (by omega) X 0 HUn.out).mono ?_
                  rintro e w2 ⟨vx, rfl, ⟨ax, cx, hvx, hrx⟩, hfr, hx2⟩
                  have hXc : X.length = c8 := by have := HXl.out; omega
                  rw [hXc] at hvx
                  subst hvx
                  have hc8p : 0 < X.length := by omega
                  obtain ⟨bx, ox, rfl, hcx0⟩ := hrx.at hc8p
                  have hbx := World.block_lt_of_cell? w2 _ hcx0
                  have hap : (Value.slice ao mo co).ownBlock ≠ some bx := fun h => by
                    have h1 := (World.ownsRow.lt HO.out bx h).2
                    have h2 := hfr bx rfl
                    omega
                  have HAP0 : Hid (Rd n64 w2 (some ⟨bx, ox, none⟩) cx X ∧ bx < w2.heap.size ∧ (Value.slice ao mo co).ownBlock ≠ some bx) := ⟨hrx, hbx, hap⟩
                  have HO2 : Hid (OwnR 69 n64 w2 base (.slice ao mo co) (out ++ X.take 0)) := (by simpa using HO.out.later hx2 : OwnR 69 n64 w2 base (.slice ao mo co) (out ++ X.take 0))
                  have HB2 : Hid (Below base w w2) := HBl.out.trans (hx2.mono hbs)
                  have HXc : Hid (X.length = c8) := hXc
                  clear hrx hx2 hXc hfr hc8p hcx0 hbx hap
                  go_wp2
                  go_loopw [11, 23] (fun v i wr => ∃ t mt : Nat, t ≤ c8 ∧ i = .int .i64 t ∧ mt ≤ mo + min t L ∧ mo + min t L ≤ mt ∧ (∃ at' ct', v = .slice at' mt ct') ∧ Hid (∀ u, L ≤ u → u < t → X[u]? = some 0) ∧ Hid (OwnR 69 n64 wr base v (out ++ X.take (min t L))) ∧ Hid (Rd n64 wr (some ⟨bx, ox, none⟩) cx X ∧ bx < wr.heap.size ∧ v.ownBlock ≠ some bx) ∧ Hid (Below base w wr)) (fun _ i _ => c8 - (intOf i).toNat)
                  case atStart => exact ⟨0, mo, by omega, rfl, by omega, by omega, ⟨_, _, rfl⟩, (fun u h1 h2 => by omega : ∀ u, L ≤ u → u < 0 → X[u]? = some 0), (by simpa using HO2.out : OwnR 69 n64 w2 base (.slice ao mo co) (out ++ X.take (min 0 L))), HAP0, HB2⟩
                  case round =>
                    obtain ⟨t, mt, ht, rfl, hm1, hm2, ⟨at', ct', rfl⟩, HZe, HOt, HAP, HBt⟩ := hrel
                    clear HO2 HB2 HAP0
                    have hbt : base ≤ wr.heap.size := by rw [HBa.out]; exact HBt.out.size
                    have hNL : mo + L ≤ N ∧ N ≤ mo + L := by have := HL.out; omega
                    by_cases htc : t < c8
                    · have htX : t < X.length := by have := HXc.out; omega
                      have hnx := List.getElem?_eq_getElem htX
                      have htk := List.take_succ_eq_append_getElem htX
                      have hy64 := HX64.out X[t] (List.getElem_mem htX)
                      obtain ⟨bx', ox', hbo, hcx⟩ := HAP.out.1.at htX
                      simp only [Option.some.injEq, Addr.mk.injEq] at hbo
                      obtain ⟨rfl, rfl, _⟩ := hbo
                      obtain ⟨y, hy⟩ : ∃ y, y = X[t] := ⟨_, rfl⟩
                      rw [← hy] at hcx hnx htk hy64
                      have hcy : wr.cell? ⟨bx, ox + t, none⟩ = some (.int .u64 (y : Int)) := hcx
                      have hti : (t : Int) < (c8 : Int) := by omega
                      have HNx : Hid (X[t]? = some y) := hnx
                      have HTk : Hid (X.take (t + 1) = X.take t ++ [y]) := htk
                      clear hcx hnx htk hy
                      by_cases htL : t < L
                      · have tm : decide ((mt : Int) < (N : Int)) = true := by simp; omega
                        have tm2 : decide (mt < N) = true := by simp; omega
                        have HRL : Hid (Rd n64 (wr.alloc (.cells #[.int .u64 (y : Int)] 69)) (some ⟨wr.heap.size, 0, none⟩) 1 [y]) := Rd.laid (enc := n64) wr 69 [y] (by simp)
                        have HOt2 : Hid (OwnR 69 n64 wr base (.slice at' mt ct') (out ++ X.take t)) := (by have := HOt.out; rw [Nat.min_eq_left (by omega)] at this; exact this : OwnR 69 n64 wr base (.slice at' mt ct') (out ++ X.take t))
                        go_wp2_with (at_builtin; refine wpList_append_rd_at (enc := n64) (e := 69) rfl (.tmp 175) (.tmp 180) 77 rfl 0 8 Tryz.underlying77 Tryz.info69 rfl (fun _ => rfl) base _ _ rfl (HOt2.out.alloc _) _ _ _ [y] rfl rfl HRL.out ?y2 ?y3 ?y4 ?_)
                        case y2 => have := HMo.out; simp [maxLen]; omega
                        case y3 => have := HMo.out; simp; omega
                        case y4 => simp; omega
                        intro v4 w4 ho4 hg4 hat4
                        have HB4 : Hid (Below base w w4) := step_belowR (HBt.out.alloc hbt _) (by simp; omega) (HOt2.out.alloc _) hg4
                        have hrx0 : Rd n64 (wr.alloc (.cells #[.int .u64 (y : Int)] 69)) (some ⟨bx, ox, none⟩) cx X := HAP.out.1.below ((Below.refl _ _).alloc (Nat.le_refl _) _)
                        have hrx4 := hrx0.far hg4 (by have := HAP.out.2.1; simp; omega) HAP.out.2.2
                        have hne4 : v4.ownBlock ≠ some bx := by
                          rcases hat4 with h | h
                          · rw [h]; exact HAP.out.2.2
                          · rw [h]; have := HAP.out.2.1; simp; omega
                        have hbx4 : bx < w4.heap.size := by
                          have h1 := hg4.size
                          have := HAP.out.2.1; simp at h1; omega
                        have HX4 : Hid (Rd n64 w4 (some ⟨bx, ox, none⟩) cx X ∧ bx < w4.heap.size ∧ v4.ownBlock ≠ some bx) := ⟨hrx4, hbx4, hne4⟩
                        have HO4 : Hid (OwnR 69 n64 w4 base v4 (out ++ X.take (min (t + 1) L))) := (by
                          rw [Nat.min_eq_left (by omega), HTk.out]; simpa using ho4 : OwnR 69 n64 w4 base v4 (out ++ X.take (min (t + 1) L)))
                        obtain ⟨a4, c4, hv4, _⟩ := HO4.out.rd
                        have hl4 : (out ++ X.take (min (t + 1) L)).length = mt + 1 := by have := HMo.out; have := HXc.out; simp; omega
                        rw [hl4] at hv4
                        have HV4 : Hid (v4 = .slice a4 (mt + 1) c4) := hv4
                        have HZ4 : Hid (∀ u, L ≤ u → u < t + 1 → X[u]? = some 0) := (fun u h1 h2 => by omega : ∀ u, L ≤ u → u < t + 1 → X[u]? = some 0)
                        clear ho4 hg4 hv4 hl4 hrx0 hrx4 hne4 hbx4 hat4
                        go_wp2
                        go_roundw
                        case rel => exact ⟨t + 1, mt + 1, by omega, by go_num, by omega, by omega, ⟨a4, c4, HV4.out⟩, HZ4, HO4, HX4, HB4⟩
                        case measure => simp [intOf]; omega
                      · have tm : decide ((mt : Int) < (N : Int)) = false := by simp; omega
                        have tm2 : decide (mt < N) = false := by simp; omega
                        by_cases hy0 : y = 0
                        · have ty : ((y : Int) != 0) = false := by simp; omega
                          have HZ4 : Hid (∀ u, L ≤ u → u < t + 1 → X[u]? = some 0) := (fun u h1 h2 => by
                            by_cases hu : u = t
                            · rw [hu, HNx.out, hy0]
                            · exact HZe.out u h1 (by omega) : ∀ u, L ≤ u → u < t + 1 → X[u]? = some 0)
                          have HO4 : Hid (OwnR 69 n64 wr base (.slice at' mt ct') (out ++ X.take (min (t + 1) L))) := (by
                            rw [show min (t + 1) L = min t L by omega]; exact HOt.out : OwnR 69 n64 wr base (.slice at' mt ct') (out ++ X.take (min (t + 1) L)))
                          clear hy0
                          go_wp2
                          go_roundw
                          case rel => exact ⟨t + 1, mt, by omega, by go_num, by omega, by omega, ⟨_, _, rfl⟩, HZ4, HO4, HAP, HBt⟩
                          case measure => simp [intOf]; omega
                        · have ty : ((y : Int) != 0) = true := by simp; omega
                          have hbd := HBD.out
                          have hany : ((X.drop L).any fun x => x != 0) = true := by
                            rw [List.any_eq_true]
                            refine ⟨y, ?_, by simp [hy0]⟩
                            have : (X.drop L)[t - L]? = some y := by rw [List.getElem?_drop, show L + (t - L) = t by omega]; exact HNx.out
                            exact List.mem_of_getElem? this
                          rw [if_pos hany] at hbd
                          have HRES : Hid (RES = ([], 0, 12)) := hbd (by simp)
                          clear hbd hany
                          go_wp2
                          go_ret3
                          obtain ⟨rfl, rfl, rfl⟩ := HBad.out 12 (by omega) HRES.out
                          exact ⟨_, rfl, IsRd.nil _, by have := HBt.out; rw [HBa.out] at this; exact this⟩
                    · obtain rfl : t = c8 := by omega
                      have hst := HST.out
                      have hany : ¬ ((X.drop L).any fun x => x != 0) = true := by
                        rw [List.any_eq_true]
                        rintro ⟨x, hx, hne⟩
                        obtain ⟨i, hi⟩ := List.getElem?_of_mem hx
                        rw [List.getElem?_drop] at hi
                        have hlt2 : L + i < X.length := (List.getElem?_eq_some_iff.1 hi).1
                        rw [HZe.out (L + i) (by omega) (by have := HXc.out; omega)] at hi
                        simp at hi
                        simp [← hi] at hne
                      rw [if_neg hany] at hst
                      have htl : X.take (min t L) = X.take L := by
                        rw [List.take_eq_take_iff]; have := HXc.out; omega
                      have HNX : Hid (R.read N D b (out ++ X.take L) (m + S) = RES) := (hst _ _ rfl).symm
                      have HOc : Hid (OwnR 69 n64 wr base (.slice at' mt ct') (out ++ X.take L)) := (by rw [← htl]; exact HOt.out : OwnR 69 n64 wr base (.slice at' mt ct') (out ++ X.take L))
                      have H64c : Hid (∀ x ∈ out ++ X.take L, x < 18446744073709551616) := (by
                        intro x hx
                        rcases List.mem_append.1 hx with h | h
                        · exact H64.out x h
                        · exact HX64.out x (List.mem_of_mem_take h) : ∀ x ∈ out ++ X.take L, x < 18446744073709551616)
                      have hlenc : (out ++ X.take L).length ≤ N := by have := HMo.out; simp; omega
                      have hmN : mo < mt := by omega
                      have hmS : m + S ≤ b.length := by omega
                      clear hst hany htl
                      go_wp2
                      go_roundw
                      case rel => exact ⟨_, m + S, hlenc, by omega, hmS, by go_num, HNX, H64c, HOc, HBt⟩
                      case measure => simp; omega
          · have tD : decide (0 < (D : Int)) = false := by simp; omega
            rw [if_neg (by omega)] at hbd hst
            have hcw : c * D ≤ b.length - m := by rw [show D = 0 by omega]; omega
            clear hL8d
            by_cases hcap : cap - m = 0
            · have hcap2 : (cap : Int) - (m : Int) = 0 := by omega
              by_cases hc0 : c = 0
              · rw [if_pos (.inl hc0)] at hbd
                have HRES : Hid (RES = ([], 0, 12)) := hbd (by simp)
                have tc : ((c : Int) == 0) = true := by simp; omega
                clear hbd hst
                go_wp2_with fail
                refine (rget_is _ _ cap b _ _ hd m 0 HGet.out HBw.out rfl).mono ?_
                rintro e wq ⟨rfl, hw'⟩
                have hw'' := hw'.symm
                clear hw'
                subst hw''
                go_wp2
                go_ret3
                obtain ⟨rfl, rfl, rfl⟩ := HBad.out 12 (by omega) HRES.out
                exact ⟨_, rfl, IsRd.nil _, by have := HBl.out; rw [HBa.out] at this; exact this⟩
              · have tc : ((c : Int) == 0) = false := by simp; omega
                have hL8 : ((L : Int) + 7) / 8 = ((L8 : Nat) : Int) := by omega
                by_cases hcL : L8 < c
                · rw [if_pos (.inr hcL)] at hbd
                  have HRES : Hid (RES = ([], 0, 12)) := hbd (by simp)
                  have tc2 : decide (L8 < c) = true := by simp; omega
                  have tc3 : decide ((L8 : Int) < (c : Int)) = true := by simp; omega
                  clear hbd hst
                  go_wp2_with fail
                  refine (rget_is _ _ cap b _ _ hd m 0 HGet.out HBw.out rfl).mono ?_
                  rintro e wq ⟨rfl, hw'⟩
                  have hw'' := hw'.symm
                  clear hw'
                  subst hw''
                  go_wp2
                  go_ret3
                  obtain ⟨rfl, rfl, rfl⟩ := HBad.out 12 (by omega) HRES.out
                  exact ⟨_, rfl, IsRd.nil _, by have := HBl.out; rw [HBa.out] at this; exact this⟩
                · rw [if_neg (by omega)] at hbd hst
                  have tc2 : decide (L8 < c) = false := by simp; omega
                  have tc3 : decide ((L8 : Int) < (c : Int)) = false := by simp; omega
                  obtain ⟨part, hpart⟩ : ∃ part, part = (b.drop m).take (c * D) := ⟨_, rfl⟩
                  obtain ⟨S, hS⟩ : ∃ S, S = c * D := ⟨_, rfl⟩
                  have hSi : (c : Int) * (D : Int) = (S : Int) := by rw [hS]; simp
                  have hSb : S ≤ b.length - m := by rw [hS]; exact hcw
                  have hSm : S ≤ 200000 * 32 := by rw [hS]; exact Nat.mul_le_mul (by omega) hD
                  have hpl : part.length = S := by rw [hpart, ← hS]; simp; omega
                  obtain ⟨X, hX⟩ : ∃ X, X = B.unpack D (8 * c) part := ⟨_, rfl⟩
                  have hXl : X.length = 8 * c := by rw [hX]; exact B.unpack_len _ _ _
                  have hun := unp_whole (D := D) (c := c) (p := part) (by omega) (by omega) (by rw [hpl, hS])
                  rw [← hX] at hun
                  rw [← hpart, ← hX] at hbd hst
                  rw [← hS] at hst
                  obtain ⟨c8, hc8⟩ : ∃ c8, c8 = 8 * c := ⟨_, rfl⟩
                  have hc8i : (8 : Int) * (c : Int) = (c8 : Int) := by omega
                  rw [← hc8] at hun
                  have hmi : (m : Int) ≤ (m : Int) + (S : Int) := by omega
                  have hb1 : 0 < b.length := by omega
                  obtain ⟨bb, off, rfl, _⟩ := HBw.out.2.2.2 0 hb1
                  have hp0 : part = [] := List.eq_nil_of_length_eq_zero (by omega)
                  have hsub : Byt wr (some ⟨bb, off, none⟩) 0 part := by rw [hp0]; exact Byt.none_ _
                  have HSub : Hid (Byt wr (some ⟨bb, off, none⟩) 0 part) := hsub
                  have HPl : Hid (part.length = S) := hpl
                  have HUn : Hid (B.unp part ((c8 : Nat) : Int) (D : Int) = (X, 0)) := hun
                  have HXl : Hid (X.length = 8 * c) := hXl
                  have HBD : Hid (_) := hbd
                  have HST : Hid (_) := hst
                  have hX64 : ∀ x ∈ X, x < 18446744073709551616 := fun x hx => by
                    rw [hX] at hx
                    unfold B.unpack at hx
                    obtain ⟨i, _, rfl⟩ := List.mem_map.1 hx
                    have h1 := B.num_lt (fun t => B.bit8 part (i * D + t)) D
                    have h2 : 2 ^ D ≤ 2 ^ 32 := Nat.pow_le_pow_right (by decide) hD
                    omega
                  have HX64 : Hid (∀ x ∈ X, x < 18446744073709551616) := hX64
                  have hc8b : c8 ≤ 1048584 := by omega
                  have hc81 : 8 * c ≤ c8 ∧ c8 ≤ 8 * c := by omega
                  clear hbd hst hpart hS hpl hX hXl hun hc8 hsub hX64 hp0
                  go_wp2_with fail
                  refine (rget_is _ _ cap b _ _ hd m 0 HGet.out HBw.out rfl).mono ?_
                  rintro e wq ⟨rfl, hw'⟩
                  have hw'' := hw'.symm
                  clear hw'
                  subst hw''
                  go_wp2_with fail
                  refine (runpack_any (some ⟨bb, off, none⟩) _ 0 part _ _ _ (by have := HPl.out; omega) HSub.out (by have := HPl.out; omega) (by omega) (by omega) (by omega) (by omega) X 0 HUn.out).mono ?_
                  rintro e w2 ⟨vx, rfl, ⟨ax, cx, hvx, hrx⟩, hfr, hx2⟩
                  have hXc : X.length = c8 := by have := HXl.out; omega
                  rw [hXc] at hvx
                  subst hvx
                  have hc8p : 0 < X.length := by omega
                  obtain ⟨bx, ox, rfl, hcx0⟩ := hrx.at hc8p
                  have hbx := World.block_lt_of_cell? w2 _ hcx0
                  have hap : (Value.slice ao mo co).ownBlock ≠ some bx := fun h => by
                    have h1 := (World.ownsRow.lt HO.out bx h).2
                    have h2 := hfr bx rfl
                    omega
                  have HAP0 : Hid (Rd n64 w2 (some ⟨bx, ox, none⟩) cx X ∧ bx < w2.heap.size ∧ (Value.slice ao mo co).ownBlock ≠ some bx) := ⟨hrx, hbx, hap⟩
                  have HO2 : Hid (OwnR 69 n64 w2 base (.slice ao mo co) (out ++ X.take 0)) := (by simpa using HO.out.later hx2 : OwnR 69 n64 w2 base (.slice ao mo co) (out ++ X.take 0))
                  have HB2 : Hid (Below base w w2) := HBl.out.trans (hx2.mono hbs)
                  have HXc : Hid (X.length = c8) := hXc
                  clear hrx hx2 hXc hfr hc8p hcx0 hbx hap
                  go_wp2
                  go_loopw [11, 23] (fun v i wr => ∃ t mt : Nat, t ≤ c8 ∧ i = .int .i64 t ∧ mt ≤ mo + min t L ∧ mo + min t L ≤ mt ∧ (∃ at' ct', v = .slice at' mt ct') ∧ Hid (∀ u, L ≤ u → u < t → X[u]? = some 0) ∧ Hid (OwnR 69 n64 wr base v (out ++ X.take (min t L))) ∧ Hid (Rd n64 wr (some ⟨bx, ox, none⟩) cx X ∧ bx < wr.heap.size ∧ v.ownBlock ≠ some bx) ∧ Hid (Below base w wr)) (fun _ i _ => c8 - (intOf i).toNat)
                  case atStart => exact ⟨0, mo, by omega, rfl, by omega, by omega, ⟨_, _, rfl⟩, (fun u h1 h2 => by omega : ∀ u, L ≤ u → u < 0 → X[u]? = some 0), (by simpa using HO2.out : OwnR 69 n64 w2 base (.slice ao mo co) (out ++ X.take (min 0 L))), HAP0, HB2⟩
                  case round =>
                    obtain ⟨t, mt, ht, rfl, hm1, hm2, ⟨at', ct', rfl⟩, HZe, HOt, HAP, HBt⟩ := hrel
                    clear HO2 HB2 HAP0
                    have hbt : base ≤ wr.heap.size := by rw [HBa.out]; exact HBt.out.size
                    have hNL : mo + L ≤ N ∧ N ≤ mo + L := by have := HL.out; omega
                    by_cases htc : t < c8
                    · have htX : t < X.length := by have := HXc.out; omega
                      have hnx := List.getElem?_eq_getElem htX
                      have htk := List.take_succ_eq_append_getElem htX
                      have hy64 := HX64.out X[t] (List.getElem_mem htX)
                      obtain ⟨bx', ox', hbo, hcx⟩ := HAP.out.1.at htX
                      simp only [Option.some.injEq, Addr.mk.injEq] at hbo
                      obtain ⟨rfl, rfl, _⟩ := hbo
                      obtain ⟨y, hy⟩ : ∃ y, y = X[t] := ⟨_, rfl⟩
                      rw [← hy] at hcx hnx htk hy64
                      have hcy : wr.cell? ⟨bx, ox + t, none⟩ = some (.int .u64 (y : Int)) := hcx
                      have hti : (t : Int) < (c8 : Int) := by omega
                      have HNx : Hid (X[t]? = some y) := hnx
                      have HTk : Hid (X.take (t + 1) = X.take t ++ [y]) := htk
                      clear hcx hnx htk hy
                      by_cases htL : t < L
                      · have tm : decide ((mt : Int) < (N : Int)) = true := by simp; omega
                        have tm2 : decide (mt < N) = true := by simp; omega
                        have HRL : Hid (Rd n64 (wr.alloc (.cells #[.int .u64 (y : Int)] 69)) (some ⟨wr.heap.size, 0, none⟩) 1 [y]) := Rd.laid (enc := n64) wr 69 [y] (by simp)
                        have HOt2 : Hid (OwnR 69 n64 wr base (.slice at' mt ct') (out ++ X.take t)) := (by have := HOt.out; rw [Nat.min_eq_left (by omega)] at this; exact this : OwnR 69 n64 wr base (.slice at' mt ct') (out ++ X.take t))
                        go_wp2_with (at_builtin; refine wpList_append_rd_at (enc := n64) (e := 69) rfl (.tmp 175) (.tmp 180) 77 rfl 0 8 Tryz.underlying77 Tryz.info69 rfl (fun _ => rfl) base _ _ rfl (HOt2.out.alloc _) _ _ _ [y] rfl rfl HRL.out ?y2 ?y3 ?y4 ?_)
                        case y2 => have := HMo.out; simp [maxLen]; omega
                        case y3 => have := HMo.out; simp; omega
                        case y4 => simp; omega
                        intro v4 w4 ho4 hg4 hat4
                        have HB4 : Hid (Below base w w4) := step_belowR (HBt.out.alloc hbt _) (by simp; omega) (HOt2.out.alloc _) hg4
                        have hrx0 : Rd n64 (wr.alloc (.cells #[.int .u64 (y : Int)] 69)) (some ⟨bx, ox, none⟩) cx X := HAP.out.1.below ((Below.refl _ _).alloc (Nat.le_refl _) _)
                        have hrx4 := hrx0.far hg4 (by have := HAP.out.2.1; simp; omega) HAP.out.2.2
                        have hne4 : v4.ownBlock ≠ some bx := by
                          rcases hat4 with h | h
                          · rw [h]; exact HAP.out.2.2
                          · rw [h]; have := HAP.out.2.1; simp; omega
                        have hbx4 : bx < w4.heap.size := by
                          have h1 := hg4.size
                          have := HAP.out.2.1; simp at h1; omega
                        have HX4 : Hid (Rd n64 w4 (some ⟨bx, ox, none⟩) cx X ∧ bx < w4.heap.size ∧ v4.ownBlock ≠ some bx) := ⟨hrx4, hbx4, hne4⟩
                        have HO4 : Hid (OwnR 69 n64 w4 base v4 (out ++ X.take (min (t + 1) L))) := (by
                          rw [Nat.min_eq_left (by omega), HTk.out]; simpa using ho4 : OwnR 69 n64 w4 base v4 (out ++ X.take (min (t + 1) L)))
                        obtain ⟨a4, c4, hv4, _⟩ := HO4.out.rd
                        have hl4 : (out ++ X.take (min (t + 1) L)).length = mt + 1 := by have := HMo.out; have := HXc.out; simp; omega
                        rw [hl4] at hv4
                        have HV4 : Hid (v4 = .slice a4 (mt + 1) c4) := hv4
                        have HZ4 : Hid (∀ u, L ≤ u → u < t + 1 → X[u]? = some 0) := (fun u h1 h2 => by omega : ∀ u, L ≤ u → u < t + 1 → X[u]? = some 0)
                        clear ho4 hg4 hv4 hl4 hrx0 hrx4 hne4 hbx4 hat4
                        go_wp2
                        go_roundw
                        case rel => exact ⟨t + 1, mt + 1, by omega, by go_num, by omega, by omega, ⟨a4, c4, HV4.out⟩, HZ4, HO4, HX4, HB4⟩
                        case measure => simp [intOf]; omega
                      · have tm : decide ((mt : Int) < (N : Int)) = false := by simp; omega
                        have tm2 : decide (mt < N) = false := by simp; omega
                        by_cases hy0 : y = 0
                        · have ty : ((y : Int) != 0) = false := by simp; omega
                          have HZ4 : Hid (∀ u, L ≤ u → u < t + 1 → X[u]? = some 0) := (fun u h1 h2 => by
                            by_cases hu : u = t
                            · rw [hu, HNx.out, hy0]
                            · exact HZe.out u h1 (by omega) : ∀ u, L ≤ u → u < t + 1 → X[u]? = some 0)
                          have HO4 : Hid (OwnR 69 n64 wr base (.slice at' mt ct') (out ++ X.take (min (t + 1) L))) := (by
                            rw [show min (t + 1) L = min t L by omega]; exact HOt.out : OwnR 69 n64 wr base (.slice at' mt ct') (out ++ X.take (min (t + 1) L)))
                          clear hy0
                          go_wp2
                          go_roundw
                          case rel => exact ⟨t + 1, mt, by omega, by go_num, by omega, by omega, ⟨_, _, rfl⟩, HZ4, HO4, HAP, HBt⟩
                          case measure => simp [intOf]; omega
                        · have ty : ((y : Int) != 0) = true := by simp; omega
                          have hbd := HBD.out
                          have hany : ((X.drop L).any fun x => x != 0) = true := by
                            rw [List.any_eq_true]
                            refine ⟨y, ?_, by simp [hy0]⟩
                            have : (X.drop L)[t - L]? = some y := by rw [List.getElem?_drop, show L + (t - L) = t by omega]; exact HNx.out
                            exact List.mem_of_getElem? this
                          rw [if_pos hany] at hbd
                          have HRES : Hid (RES = ([], 0, 12)) := hbd (by simp)
                          clear hbd hany
                          go_wp2
                          go_ret3
                          obtain ⟨rfl, rfl, rfl⟩ := HBad.out 12 (by omega) HRES.out
                          exact ⟨_, rfl, IsRd.nil _, by have := HBt.out; rw [HBa.out] at this; exact this⟩
                    · obtain rfl : t = c8 := by omega
                      have hst := HST.out
                      have hany : ¬ ((X.drop L).any fun x => x != 0) = true := by
                        rw [List.any_eq_true]
                        rintro ⟨x, hx, hne⟩
                        obtain ⟨i, hi⟩ := List.getElem?_of_mem hx
                        rw [List.getElem?_drop] at hi
                        have hlt2 : L + i < X.length := (List.getElem?_eq_some_iff.1 hi).1
                        rw [HZe.out (L + i) (by omega) (by have := HXc.out; omega)] at hi
                        simp at hi
                        simp [← hi] at hne
                      rw [if_neg hany] at hst
                      have htl : X.take (min t L) = X.take L := by
                        rw [List.take_eq_take_iff]; have := HXc.out; omega
                      have HNX : Hid (R.read N D b (out ++ X.take L) (m + S) = RES) := (hst _ _ rfl).symm
                      have HOc : Hid (OwnR 69 n64 wr base (.slice at' mt ct') (out ++ X.take L)) := (by rw [← htl]; exact HOt.out : OwnR 69 n64 wr base (.slice at' mt ct') (out ++ X.take L))
                      have H64c : Hid (∀ x ∈ out ++ X.take L, x < 18446744073709551616) := (by
                        intro x hx
                        rcases List.mem_append.1 hx with h | h
                        · exact H64.out x h
                        · exact HX64.out x (List.mem_of_mem_take h) : ∀ x ∈ out ++ X.take L, x < 18446744073709551616)
                      have hlenc : (out ++ X.take L).length ≤ N := by have := HMo.out; simp; omega
                      have hmN : mo < mt := by omega
                      have hmS : m + S ≤ b.length := by omega
                      clear hst hany htl
                      go_wp2
                      go_roundw
                      case rel => exact ⟨_, m + S, hlenc, by omega, hmS, by go_num, HNX, H64c, HOc, HBt⟩
                      case measure => simp; omega
            · have hcap2 : ¬ (cap : Int) - (m : Int) = 0 := by omega
              by_cases hc0 : c = 0
              · rw [if_pos (.inl hc0)] at hbd
                have HRES : Hid (RES = ([], 0, 12)) := hbd (by simp)
                have tc : ((c : Int) == 0) = true := by simp; omega
                clear hbd hst
                go_wp2_with fail
                refine (rget_is _ _ cap b _ _ hd m 0 HGet.out HBw.out rfl).mono ?_
                rintro e wq ⟨rfl, hw'⟩
                have hw'' := hw'.symm
                clear hw'
                subst hw''
                go_wp2
                go_ret3
                obtain ⟨rfl, rfl, rfl⟩ := HBad.out 12 (by omega) HRES.out
                exact ⟨_, rfl, IsRd.nil _, by have := HBl.out; rw [HBa.out] at this; exact this⟩
              · have tc : ((c : Int) == 0) = false := by simp; omega
                have hL8 : ((L : Int) + 7) / 8 = ((L8 : Nat) : Int) := by omega
                by_cases hcL : L8 < c
                · rw [if_pos (.inr hcL)] at hbd
                  have HRES : Hid (RES = ([], 0, 12)) := hbd (by simp)
                  have tc2 : decide (L8 < c) = true := by simp; omega
                  have tc3 : decide ((L8 : Int) < (c : Int)) = true := by simp; omega
                  clear hbd hst
                  go_wp2_with fail
                  refine (rget_is _ _ cap b _ _ hd m 0 HGet.out HBw.out rfl).mono ?_
                  rintro e wq ⟨rfl, hw'⟩
                  have hw'' := hw'.symm
                  clear hw'
                  subst hw''
                  go_wp2
                  go_ret3
                  obtain ⟨rfl, rfl, rfl⟩ := HBad.out 12 (by omega) HRES.out
                  exact ⟨_, rfl, IsRd.nil _, by have := HBl.out; rw [HBa.out] at this; exact this⟩
                · rw [if_neg (by omega)] at hbd hst
                  have tc2 : decide (L8 < c) = false := by simp; omega
                  have tc3 : decide ((L8 : Int) < (c : Int)) = false := by simp; omega
                  obtain ⟨part, hpart⟩ : ∃ part, part = (b.drop m).take (c * D) := ⟨_, rfl⟩
                  obtain ⟨S, hS⟩ : ∃ S, S = c * D := ⟨_, rfl⟩
                  have hSi : (c : Int) * (D : Int) = (S : Int) := by rw [hS]; simp
                  have hSb : S ≤ b.length - m := by rw [hS]; exact hcw
                  have hSm : S ≤ 200000 * 32 := by rw [hS]; exact Nat.mul_le_mul (by omega) hD
                  have hpl : part.length = S := by rw [hpart, ← hS]; simp; omega
                  obtain ⟨X, hX⟩ : ∃ X, X = B.unpack D (8 * c) part := ⟨_, rfl⟩
                  have hXl : X.length = 8 * c := by rw [hX]; exact B.unpack_len _ _ _
                  have hun := unp_whole (D := D) (c := c) (p := part) (by omega) (by omega) (by rw [hpl, hS])
                  rw [← hX] at hun
                  rw [← hpart, ← hX] at hbd hst
                  rw [← hS] at hst
                  obtain ⟨c8, hc8⟩ : ∃ c8, c8 = 8 * c := ⟨_, rfl⟩
                  have hc8i : (8 : Int) * (c : Int) = (c8 : Int) := by omega
                  rw [← hc8] at hun
                  have hmi : (m : Int) ≤ (m : Int) + (S : Int) := by omega
                  have hb1 : 0 < b.length := by omega
                  obtain ⟨bb, off, rfl, _⟩ := HBw.out.2.2.2 0 hb1
                  have hsub := HBw.out.sub m S (by omega)
                  rw [Option.map_some, add_none, hS, ← hpart] at hsub
                  have HSub : Hid (Byt wr (some ⟨bb, off + m, none⟩) (cap - m) part) := hsub
                  have HPl : Hid (part.length = S) := hpl
                  have HUn : Hid (B.unp part ((c8 : Nat) : Int) (D : Int) = (X, 0)) := hun
                  have HXl : Hid (X.length = 8 * c) := hXl
                  have HBD : Hid (_) := hbd
                  have HST : Hid (_) := hst
                  have hX64 : ∀ x ∈ X, x < 18446744073709551616 := fun x hx => by
                    rw [hX] at hx
                    unfold B.unpack at hx
                    obtain ⟨i, _, rfl⟩ := List.mem_map.1 hx
                    have h1 := B.num_lt (fun t => B.bit8 part (i * D + t)) D
                    have h2 : 2 ^ D ≤ 2 ^ 32 := Nat.pow_le_pow_right (by decide) hD
                    omega
                  have HX64 : Hid (∀ x ∈ X, x < 18446744073709551616) := hX64
                  have hc8b : c8 ≤ 1048584 := by omega
                  have hc81 : 8 * c ≤ c8 ∧ c8 ≤ 8 * c := by omega
                  clear hbd hst hpart hS hpl hX hXl hun hc8 hsub hX64
                  go_wp2_with fail
                  refine (rget_is _ _ cap b _ _ hd m 0 HGet.out HBw.out rfl).mono ?_
                  rintro e wq ⟨rfl, hw'⟩
                  have hw'' := hw'.symm
                  clear hw'
                  subst hw''
                  go_wp2_with fail
                  refine (runpack_any (some ⟨bb, off + m, none⟩) _ (cap - m) part _ _ _ (by have := HPl.out; omega) HSub.out (by have := HPl.out; omega) (by omega) (by omega) (by omega) (by omega) X 0 HUn.out).mono ?_
                  rintro e w2 ⟨vx, rfl, ⟨ax, cx, hvx, hrx⟩, hfr, hx2⟩
                  have hXc : X.length = c8 := by have := HXl.out; omega
                  rw [hXc] at hvx
                  subst hvx
                  have hc8p : 0 < X.length := by omega
                  obtain ⟨bx, ox, rfl, hcx0⟩ := hrx.at hc8p
                  have hbx := World.block_lt_of_cell? w2 _ hcx0
                  have hap : (Value.slice ao mo co).ownBlock ≠ some bx := fun h => by
                    have h1 := (World.ownsRow.lt HO.out bx h).2
                    have h2 := hfr bx rfl
                    omega
                  have HAP0 : Hid (Rd n64 w2 (some ⟨bx, ox, none⟩) cx X ∧ bx < w2.heap.size ∧ (Value.slice ao mo co).ownBlock ≠ some bx) := ⟨hrx, hbx, hap⟩
                  have HO2 : Hid (OwnR 69 n64 w2 base (.slice ao mo co) (out ++ X.take 0)) := (by simpa using HO.out.later hx2 : OwnR 69 n64 w2 base (.slice ao mo co) (out ++ X.take 0))
                  have HB2 : Hid (Below base w w2) := HBl.out.trans (hx2.mono hbs)
                  have HXc : Hid (X.length = c8) := hXc
                  clear hrx hx2 hXc hfr hc8p hcx0 hbx hap
                  go_wp2
                  go_loopw [11, 23] (fun v i wr => ∃ t mt : Nat, t ≤ c8 ∧ i = .int .i64 t ∧ mt ≤ mo + min t L ∧ mo + min t L ≤ mt ∧ (∃ at' ct', v = .slice at' mt ct') ∧ Hid (∀ u, L ≤ u → u < t → X[u]? = some 0) ∧ Hid (OwnR 69 n64 wr base v (out ++ X.take (min t L))) ∧ Hid (Rd n64 wr (some ⟨bx, ox, none⟩) cx X ∧ bx < wr.heap.size ∧ v.ownBlock ≠ some bx) ∧ Hid (Below base w wr)) (fun _ i _ => c8 - (intOf i).toNat)
                  case atStart => exact ⟨0, mo, by omega, rfl, by omega, by omega, ⟨_, _, rfl⟩, (fun u h1 h2 => by omega : ∀ u, L ≤ u → u < 0 → X[u]? = some 0), (by simpa using HO2.out : OwnR 69 n64 w2 base (.slice ao mo co) (out ++ X.take (min 0 L))), HAP0, HB2⟩
                  case round =>
                    obtain ⟨t, mt, ht, rfl, hm1, hm2, ⟨at', ct', rfl⟩, HZe, HOt, HAP, HBt⟩ := hrel
                    clear HO2 HB2 HAP0
                    have hbt : base ≤ wr.heap.size := by rw [HBa.out]; exact HBt.out.size
                    have hNL : mo + L ≤ N ∧ N ≤ mo + L := by have := HL.out; omega
                    by_cases htc : t < c8
                    · have htX : t < X.length := by have := HXc.out; omega
                      have hnx := List.getElem?_eq_getElem htX
                      have htk := List.take_succ_eq_append_getElem htX
                      have hy64 := HX64.out X[t] (List.getElem_mem htX)
                      obtain ⟨bx', ox', hbo, hcx⟩ := HAP.out.1.at htX
                      simp only [Option.some.injEq, Addr.mk.injEq] at hbo
                      obtain ⟨rfl, rfl, _⟩ := hbo
                      obtain ⟨y, hy⟩ : ∃ y, y = X[t] := ⟨_, rfl⟩
                      rw [← hy] at hcx hnx htk hy64
                      have hcy : wr.cell? ⟨bx, ox + t, none⟩ = some (.int .u64 (y : Int)) := hcx
                      have hti : (t : Int) < (c8 : Int) := by omega
                      have HNx : Hid (X[t]? = some y) := hnx
                      have HTk : Hid (X.take (t + 1) = X.take t ++ [y]) := htk
                      clear hcx hnx htk hy
                      by_cases htL : t < L
                      · have tm : decide ((mt : Int) < (N : Int)) = true := by simp; omega
                        have tm2 : decide (mt < N) = true := by simp; omega
                        have HRL : Hid (Rd n64 (wr.alloc (.cells #[.int .u64 (y : Int)] 69)) (some ⟨wr.heap.size, 0, none⟩) 1 [y]) := Rd.laid (enc := n64) wr 69 [y] (by simp)
                        have HOt2 : Hid (OwnR 69 n64 wr base (.slice at' mt ct') (out ++ X.take t)) := (by have := HOt.out; rw [Nat.min_eq_left (by omega)] at this; exact this : OwnR 69 n64 wr base (.slice at' mt ct') (out ++ X.take t))
                        go_wp2_with (at_builtin; refine wpList_append_rd_at (enc := n64) (e := 69) rfl (.tmp 175) (.tmp 180) 77 rfl 0 8 Tryz.underlying77 Tryz.info69 rfl (fun _ => rfl) base _ _ rfl (HOt2.out.alloc _) _ _ _ [y] rfl rfl HRL.out ?y2 ?y3 ?y4 ?_)
                        case y2 => have := HMo.out; simp [maxLen]; omega
                        case y3 => have := HMo.out; simp; omega
                        case y4 => simp; omega
                        intro v4 w4 ho4 hg4 hat4
                        have HB4 : Hid (Below base w w4) := step_belowR (HBt.out.alloc hbt _) (by simp; omega) (HOt2.out.alloc _) hg4
                        have hrx0 : Rd n64 (wr.alloc (.cells #[.int .u64 (y : Int)] 69)) (some ⟨bx, ox, none⟩) cx X := HAP.out.1.below ((Below.refl _ _).alloc (Nat.le_refl _) _)
                        have hrx4 := hrx0.far hg4 (by have := HAP.out.2.1; simp; omega) HAP.out.2.2
                        have hne4 : v4.ownBlock ≠ some bx := by
                          rcases hat4 with h | h
                          · rw [h]; exact HAP.out.2.2
                          · rw [h]; have := HAP.out.2.1; simp; omega
                        have hbx4 : bx < w4.heap.size := by
                          have h1 := hg4.size
                          have := HAP.out.2.1; simp at h1; omega
                        have HX4 : Hid (Rd n64 w4 (some ⟨bx, ox, none⟩) cx X ∧ bx < w4.heap.size ∧ v4.ownBlock ≠ some bx) := ⟨hrx4, hbx4, hne4⟩
                        have HO4 : Hid (OwnR 69 n64 w4 base v4 (out ++ X.take (min (t + 1) L))) := (by
                          rw [Nat.min_eq_left (by omega), HTk.out]; simpa using ho4 : OwnR 69 n64 w4 base v4 (out ++ X.take (min (t + 1) L)))
                        obtain ⟨a4, c4, hv4, _⟩ := HO4.out.rd
                        have hl4 : (out ++ X.take (min (t + 1) L)).length = mt + 1 := by have := HMo.out; have := HXc.out; simp; omega
                        rw [hl4] at hv4
                        have HV4 : Hid (v4 = .slice a4 (mt + 1) c4) := hv4
                        have HZ4 : Hid (∀ u, L ≤ u → u < t + 1 → X[u]? = some 0) := (fun u h1 h2 => by omega : ∀ u, L ≤ u → u < t + 1 → X[u]? = some 0)
                        clear ho4 hg4 hv4 hl4 hrx0 hrx4 hne4 hbx4 hat4
                        go_wp2
                        go_roundw
                        case rel => exact ⟨t + 1, mt + 1, by omega, by go_num, by omega, by omega, ⟨a4, c4, HV4.out⟩, HZ4, HO4, HX4, HB4⟩
                        case measure => simp [intOf]; omega
                      · have tm : decide ((mt : Int) < (N : Int)) = false := by simp; omega
                        have tm2 : decide (mt < N) = false := by simp; omega
                        by_cases hy0 : y = 0
                        · have ty : ((y : Int) != 0) = false := by simp; omega
                          have HZ4 : Hid (∀ u, L ≤ u → u < t + 1 → X[u]? = some 0) := (fun u h1 h2 => by
                            by_cases hu : u = t
                            · rw [hu, HNx.out, hy0]
                            · exact HZe.out u h1 (by omega) : ∀ u, L ≤ u → u < t + 1 → X[u]? = some 0)
                          have HO4 : Hid (OwnR 69 n64 wr base (.slice at' mt ct') (out ++ X.take (min (t + 1) L))) := (by
                            rw [show min (t + 1) L = min t L by omega]; exact HOt.out : OwnR 69 n64 wr base (.slice at' mt ct') (out ++ X.take (min (t + 1) L)))
                          clear hy0
                          go_wp2
                          go_roundw
                          case rel => exact ⟨t + 1, mt, by omega, by go_num, by omega, by omega, ⟨_, _, rfl⟩, HZ4, HO4, HAP, HBt⟩
                          case measure => simp [intOf]; omega
                        · have ty : ((y : Int) != 0) = true := by simp; omega
                          have hbd := HBD.out
                          have hany : ((X.drop L).any fun x => x != 0) = true := by
                            rw [List.any_eq_true]
                            refine ⟨y, ?_, by simp [hy0]⟩
                            have : (X.drop L)[t - L]? = some y := by rw [List.getElem?_drop, show L + (t - L) = t by omega]; exact HNx.out
                            exact List.mem_of_getElem? this
                          rw [if_pos hany] at hbd
                          have HRES : Hid (RES = ([], 0, 12)) := hbd (by simp)
                          clear hbd hany
                          go_wp2
                          go_ret3
                          obtain ⟨rfl, rfl, rfl⟩ := HBad.out 12 (by omega) HRES.out
                          exact ⟨_, rfl, IsRd.nil _, by have := HBt.out; rw [HBa.out] at this; exact this⟩
                    · obtain rfl : t = c8 := by omega
                      have hst := HST.out
                      have hany : ¬ ((X.drop L).any fun x => x != 0) = true := by
                        rw [List.any_eq_true]
                        rintro ⟨x, hx, hne⟩
                        obtain ⟨i, hi⟩ := List.getElem?_of_mem hx
                        rw [List.getElem?_drop] at hi
                        have hlt2 : L + i < X.length := (List.getElem?_eq_some_iff.1 hi).1
                        rw [HZe.out (L + i) (by omega) (by have := HXc.out; omega)] at hi
                        simp at hi
                        simp [← hi] at hne
                      rw [if_neg hany] at hst
                      have htl : X.take (min t L) = X.take L := by
                        rw [List.take_eq_take_iff]; have := HXc.out; omega
                      have HNX : Hid (R.read N D b (out ++ X.take L) (m + S) = RES) := (hst _ _ rfl).symm
                      have HOc : Hid (OwnR 69 n64 wr base (.slice at' mt ct') (out ++ X.take L)) := (by rw [← htl]; exact HOt.out : OwnR 69 n64 wr base (.slice at' mt ct') (out ++ X.take L))
                      have H64c : Hid (∀ x ∈ out ++ X.take L, x < 18446744073709551616) := (by
                        intro x hx
                        rcases List.mem_append.1 hx with h | h
                        · exact H64.out x h
                        · exact HX64.out x (List.mem_of_mem_take h) : ∀ x ∈ out ++ X.take L, x < 18446744073709551616)
                      have hlenc : (out ++ X.take L).length ≤ N := by have := HMo.out; simp; omega
                      have hmN : mo < mt := by omega
                      have hmS : m + S ≤ b.length := by omega
                      clear hst hany htl
                      go_wp2
                      go_roundw
                      case rel => exact ⟨_, m + S, hlenc, by omega, hmS, by go_num, HNX, H64c, HOc, HBt⟩
                      case measure => simp; omega
      · have te : ((e : Int) != 0) = true := by simp; omega
        rw [if_pos he] at hbd
        have HRES : Hid (RES = ([], 0, e)) := hbd he
        clear hbd hst hget hga hgf hL
        go_wp2_with fail
        refine (rget_is a _ cap b _ _ hd m e HGet.out HBw.out rfl).mono ?_
        rintro e' wq ⟨rfl, hw'⟩
        have hw'' := hw'.symm
        clear hw'
        subst hw''
        go_wp2
        go_ret3
        obtain ⟨rfl, rfl, rfl⟩ := HBad.out e (by omega) HRES.out
        exact ⟨_, rfl, IsRd.nil _, by have := HBl.out; rw [HBa.out] at this; exact this⟩
    · have tn : decide ((mo : Int) < (N : Int)) = false := by simp; omega
      have tn2 : decide (mo < N) = false := by simp; omega
      have hend := R.read_end (n := N) (w := D) (b := b) (out := out) (k := k) (by have := HMo.out; omega)
      rw [HR0.out] at hend
      have hg := HGood.out out k hend
      have hol : out.length ≤ 2000000 := by have := HMo.out; omega
      obtain ⟨EN, hEN⟩ : ∃ EN, EN = R.enc D out := ⟨_, rfl⟩
      obtain ⟨SL, hSL⟩ : ∃ SL, SL = (b.drop A).take (k - A) := ⟨_, rfl⟩
      have HSL : Hid (SL = (b.drop A).take (k - A)) := hSL
      rw [← hEN, ← hSL] at hg
      by_cases hwd : B.width out ≤ D
      · have HEE : Hid (R.encE out (D : Int) = (EN, 0)) := (by unfold R.encE; rw [if_neg (by simp; omega), hEN]; simp : R.encE out (D : Int) = (EN, 0))
        obtain ⟨Q, hQ⟩ : ∃ Q : Bool, Q = (EN != SL) := ⟨_, rfl⟩
        have HQ : Hid ((!(EN == SL)) = Q) := hQ.symm
        have HG : Hid ((if Q then ([], 0, 12) else (out, k, 0)) = (r, k0, e0)) := (by
          rw [← hg]
          cases Q
          · have h1 : EN = SL := by simpa using hQ.symm
            exact (if_pos (⟨hwd, h1⟩ : B.width out ≤ D ∧ EN = SL)).symm
          · have h1 : ¬ EN = SL := by simpa using hQ.symm
            exact (if_neg (fun h : B.width out ≤ D ∧ EN = SL => h1 h.2)).symm : (if Q then ([], 0, 12) else (out, k, 0)) = (r, k0, e0))
        clear hend hg hEN hSL hQ
        go_wp2_with fail
        refine (renc_is ao _ co out _ _ HMo.out HRo.out H64.out hol EN 0 HEE.out).mono ?_
        rintro e w5 ⟨vp, rfl, ⟨ap, cp, rfl, hbp⟩, hx5⟩
        have HBP : Hid (Byt w5 ap cp EN) := hbp
        have HBx : Hid (Byt w5 a cap b) := HBw.out.below hx5
        have HX5 : Hid (Ex wr w5) := hx5
        clear hbp hx5
        go_wp2_with fail
        have hre := Ex.refl
        refine Rg.wp_rows [.inl (Value.int IntKind.i64 0), .inl (.bool false), .inl (.bool false), .inl (Value.slice ap EN.length cp), .inl (.string (str EN)), .inl (Value.slice a b.length cap), .inl (Value.int IntKind.i64 ↑A), .inl (Value.int IntKind.i64 ↑k), .inr (IsByt SL), .inl (.string (str SL)), .inl (.bool Q), .inl (.bool Q)] (Ex w5) Ex 207 (by kernel_rfl) rfl (by kernel_rfl) ?st hre (Ex.drew _) ?goods ?fin
        case st => exact ⟨IsByt.stands _, trivial⟩
        case goods =>
          refine Rg.goods_cons (Rg.good_move hre rfl rfl rfl) ?_
          refine Rg.goods_cons (Rg.good_bin hre rfl rfl rfl rfl (fun _ => rfl) (fun w => by rfl)) ?_
          refine Rg.goods_cons (Rg.good_move hre rfl rfl rfl) ?_
          refine Rg.goods_cons (Rg.good_move hre rfl rfl rfl) ?_
          refine Rg.goods_cons (Rg.good_conv hre rfl rfl (by rintro u wx hC rfl; exact run_str (HBP.out.below hC) rfl)) ?_
          refine Rg.goods_cons (Rg.good_move hre rfl rfl rfl) ?_
          refine Rg.goods_cons (Rg.good_move hre rfl rfl rfl) ?_
          refine Rg.goods_cons (Rg.good_move hre rfl rfl rfl) ?_
          refine Rg.goods_cons (Rg.good_slice3 hre rfl rfl rfl rfl (by rintro u wx hC rfl; rw [HSL.out]; exact slice_mid a cap A k b wx (HBx.out.below hC) hAk hkb)) ?_
          refine Rg.goods_cons (Rg.good_conv hre rfl rfl (by exact fun u w _ h => conv_row h)) ?_
          refine Rg.goods_cons (Rg.good_bin hre rfl rfl rfl rfl (fun _ => rfl) (fun w => by simp only [go_sem, str_toList, Sem.run_pure]; rw [HQ.out])) ?_
          refine Rg.goods_cons (Rg.good_pick false hre rfl rfl rfl rfl) ?_
          exact Rg.goods_nil
        case fin =>
          intro wx hx
          simp only [Rg.later, Act.put, List.setIfInBounds_toArray, List.set_cons_succ, List.set_cons_zero]
          intro v201 _
          have hxw : Ex w wx := by
            have h1 : Ex w wr := by have := HBl.out; rw [HBa.out] at this; exact this
            exact (h1.trans HX5.out).trans hx
          have HXw : Hid (Ex w wx) := hxw
          have HRx : Hid (Rd n64 wx ao co out) := (HRo.out.below HX5.out).below hx
          clear hxw
          cases Q
          · have hg := HG.out
            simp only [Bool.false_eq_true, if_false, Prod.mk.injEq] at hg
            obtain ⟨rfl, rfl, rfl⟩ := hg
            go_wp2
            go_ret3
            exact ⟨_, rfl, ⟨ao, co, by rw [← HMo.out]; rfl, HRx.out⟩, HXw.out⟩
          · have hg := HG.out
            simp only [if_true, Prod.mk.injEq] at hg
            obtain ⟨rfl, rfl, rfl⟩ := hg
            go_wp2
            go_ret3
            exact ⟨_, rfl, IsRd.nil _, HXw.out⟩
      · have HEE : Hid (R.encE out (D : Int) = ([], 15)) := (by unfold R.encE; rw [if_pos (by simp; omega)] : R.encE out (D : Int) = ([], 15))
        rw [if_neg (fun h => hwd h.1)] at hg
        simp only [Prod.mk.injEq] at hg
        obtain ⟨rfl, rfl, rfl⟩ := hg
        clear hend hEN hSL
        go_wp2_with fail
        refine (renc_is ao _ co out _ _ HMo.out HRo.out H64.out hol [] 15 HEE.out).mono ?_
        rintro e w5 ⟨vp, rfl, ⟨ap, cp, rfl, hbp⟩, hx5⟩
        have HX5 : Hid (Ex wr w5) := hx5
        clear hbp hx5
        go_wp2_with fail
        have hre := Ex.refl
        refine Rg.wp_rows [.inl (Value.int IntKind.i64 15), .inl (.bool true), .inl (.bool true), .inl undef, .inl undef, .inl undef, .inl undef, .inl undef, .inl undef, .inl undef, .inl undef, .inl (Value.bool true)] (Ex w5) Ex 207 (by kernel_rfl) rfl (by kernel_rfl) ?st hre (Ex.drew _) ?goods ?fin
        case st => exact trivial
        case goods =>
          refine Rg.goods_cons (Rg.good_move hre rfl rfl rfl) ?_
          refine Rg.goods_cons (Rg.good_bin hre rfl rfl rfl rfl (fun _ => rfl) (fun w => by rfl)) ?_
          refine Rg.goods_cons (Rg.good_move hre rfl rfl rfl) ?_
          refine Rg.goods_cons (Rg.good_skip rfl) ?_
          refine Rg.goods_cons (Rg.good_skip rfl) ?_
          refine Rg.goods_cons (Rg.good_skip rfl) ?_
          refine Rg.goods_cons (Rg.good_skip rfl) ?_
          refine Rg.goods_cons (Rg.good_skip rfl) ?_
          refine Rg.goods_cons (Rg.good_skip rfl) ?_
          refine Rg.goods_cons (Rg.good_skip rfl) ?_
          refine Rg.goods_cons (Rg.good_skip rfl) ?_
          refine Rg.goods_cons (Rg.good_pick true hre rfl rfl rfl rfl) ?_
          exact Rg.goods_nil
        case fin =>
          intro wx hx
          simp only [Rg.later, Act.put, List.setIfInBounds_toArray, List.set_cons_succ, List.set_cons_zero]
          have hxw : Ex w wx := by
            have h1 : Ex w wr := by have := HBl.out; rw [HBa.out] at this; exact this
            exact (h1.trans HX5.out).trans hx
          have HXw : Hid (Ex w wx) := hxw
          clear hxw
          go_wp2
          go_ret3
          exact ⟨_, rfl, IsRd.nil _, HXw.out⟩

set_option maxRecDepth 100000 in
theorem rdec_refuse (a : Option Addr) (cap : Nat) (b : List UInt8) (at' n wd : Int) (w : World) (hcl : b.length ≤ cap) (hcm : cap ≤ maxLen) (E : Nat) (h : (wd < 0 ∨ 32 < wd) ∧ E = 15 ∨ (0 ≤ wd ∧ wd ≤ 32) ∧ (n < 0 ∨ 1048576 < n ∨ at' < 0 ∨ (b.length : Int) < at') ∧ E = 1) :
    Calls Tryz.prog 49 #[.slice a b.length cap, .int .i64 at', .int .i64 n, .int .i64 wd] w fun e w' => ∃ v, e = .returned (.tuple #[v, .int .i64 0, .int .i64 E]) ∧ IsRd n64 [] v w' ∧ Ex w w' := by
  unfold maxLen at hcm
  have fin : ∀ w : World, IsRd n64 [] (.slice none 0 0) w ∧ Ex w w := fun w => ⟨IsRd.nil _, Ex.refl _⟩
  by_cases a1 : wd < 0
  · have t1 : decide (wd < 0) = true := by simp; omega
    obtain rfl : E = 15 := by omega
    clear h
    go_enter Tryz.func49, Tryz.ntmps49
    go_wp2
    go_ret3
    exact ⟨_, rfl, fin _⟩
  · have t1 : decide (wd < 0) = false := by simp; omega
    by_cases a2 : 32 < wd
    · have t2 : decide (32 < wd) = true := by simp; omega
      obtain rfl : E = 15 := by omega
      clear h
      go_enter Tryz.func49, Tryz.ntmps49
      go_wp2
      go_ret3
      exact ⟨_, rfl, fin _⟩
    · have t2 : decide (32 < wd) = false := by simp; omega
      obtain rfl : E = 1 := by omega
      by_cases a3 : n < 0
      · have t3 : decide (n < 0) = true := by simp; omega
        clear h
        go_enter Tryz.func49, Tryz.ntmps49
        go_wp2
        go_ret3
        exact ⟨_, rfl, fin _⟩
      · have t3 : decide (n < 0) = false := by simp; omega
        by_cases a4 : 1048576 < n
        · have t4 : decide (1048576 < n) = true := by simp; omega
          clear h
          go_enter Tryz.func49, Tryz.ntmps49
          go_wp2
          go_ret3
          exact ⟨_, rfl, fin _⟩
        · have t4 : decide (1048576 < n) = false := by simp; omega
          by_cases a5 : at' < 0
          · have t5 : decide (at' < 0) = true := by simp; omega
            clear h
            go_enter Tryz.func49, Tryz.ntmps49
            go_wp2
            go_ret3
            exact ⟨_, rfl, fin _⟩
          · have t5 : decide (at' < 0) = false := by simp; omega
            have t6 : decide ((b.length : Int) < at') = true := by simp; omega
            clear h
            go_enter Tryz.func49, Tryz.ntmps49
            go_wp2
            go_ret3
            exact ⟨_, rfl, fin _⟩
/-- The document's own Decode. -/
theorem rdec_is (a : Option Addr) (len cap : Nat) (b : List UInt8) (at' n wd : Int) (w : World) (hlen : len = b.length) (hB : Byt w a cap b) (hbl : b.length ≤ 140737488355328) (r : List Nat) (k0 e0 : Nat) (hr : R.dec b at' n wd = (r, k0, e0)) :
    Calls Tryz.prog 49 #[.slice a len cap, .int .i64 at', .int .i64 n, .int .i64 wd] w fun e w' => ∃ v, e = .returned (.tuple #[v, .int .i64 k0, .int .i64 e0]) ∧ IsRd n64 r v w' ∧ Ex w w' := by
  subst hlen
  unfold R.dec at hr
  by_cases h1 : wd < 0 ∨ 32 < wd
  · rw [if_pos h1] at hr
    simp only [Prod.mk.injEq] at hr
    obtain ⟨rfl, rfl, rfl⟩ := hr
    exact rdec_refuse a cap b at' n wd w hB.1 hB.2.1 15 (.inl ⟨h1, rfl⟩)
  · rw [if_neg h1] at hr
    by_cases h2 : n < 0 ∨ 1048576 < n ∨ at' < 0 ∨ (b.length : Int) < at'
    · rw [if_pos h2] at hr
      simp only [Prod.mk.injEq] at hr
      obtain ⟨rfl, rfl, rfl⟩ := hr
      exact rdec_refuse a cap b at' n wd w hB.1 hB.2.1 1 (.inr ⟨by omega, h2, rfl⟩)
    · rw [if_neg h2] at hr
      obtain ⟨N, rfl⟩ := Int.eq_ofNat_of_zero_le (show 0 ≤ n by omega)
      obtain ⟨D, rfl⟩ := Int.eq_ofNat_of_zero_le (show 0 ≤ wd by omega)
      obtain ⟨A, rfl⟩ := Int.eq_ofNat_of_zero_le (show 0 ≤ at' by omega)
      simp only [Int.toNat_natCast] at hr
      obtain ⟨RES, hRES⟩ : ∃ RES, R.read N D b [] A = RES := ⟨_, rfl⟩
      rw [hRES] at hr
      refine rdec_main a cap b A N D w hB (by omega) (by omega) (by omega) hbl RES hRES r k0 e0 ?_ ?_
      · intro e he hR
        rw [hR] at hr
        simp only at hr
        rw [if_pos he] at hr
        simp only [Prod.mk.injEq] at hr
        exact ⟨hr.1.symm, hr.2.1.symm, hr.2.2.symm⟩
      · intro out k hR
        rw [hR] at hr
        simp only [ne_eq, not_true_eq_false, if_false] at hr
        exact hr
end Go.Proofs.YtnmonoafjijfhaaGreat
