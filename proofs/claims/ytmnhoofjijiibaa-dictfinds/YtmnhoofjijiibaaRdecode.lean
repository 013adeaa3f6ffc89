/-
  The document's own Decode (layer 7) over the program.
-/
import Derived.Test.YtmnhoofjijiibaaRbuild
namespace Go.Proofs.Ytmnhoofjijiibaa
open Go.RowKit
set_option linter.unusedVariables false

set_option maxRecDepth 100000 in
set_option maxHeartbeats 1000000 in
theorem rdecode_main (a : Option Addr) (cap : Nat) (b : List UInt8) (p : Int) (n K : Nat) (w : World) (hB : Byt w a cap b) (hg : M.get b p = (n, K, 0)) (h16 : n ≤ 16) (R1 : List (List UInt8)) (R2 R3 : Nat) (hR : T.rd b n K [] = (R1, R2, R3)) (r : List (List UInt8)) (k0 e0 : Nat)
    (hr : (if R3 ≠ 0 then ([], 0, R3) else if T.adj R1 = true then (R1, R2, 0) else ([], 0, 12)) = (r, k0, e0)) :
    Calls Try.prog 24 #[.slice a b.length cap, .int .i64 p] w fun e w' => ∃ v, e = .returned (.tuple #[v, .int .i64 k0, .int .i64 e0]) ∧ IsRd st r v w' ∧ Ex w w' := by
  obtain ⟨base, hbase⟩ : ∃ base, base = w.heap.size := ⟨_, rfl⟩
  have HBa : Hid (base = w.heap.size) := hbase
  have HB : Hid (Byt w a cap b) := hB
  have HG : Hid (M.get b p = (n, K, 0)) := hg
  have hKb : K ≤ b.length := by have := M.get_all b p; rw [hg] at this; exact this.2.1
  have HR : Hid (T.rd b n K [] = (R1, R2, R3)) := hR
  have HRr : Hid ((if R3 ≠ 0 then ([], 0, R3) else if T.adj R1 = true then (R1, R2, 0) else ([], 0, 12)) = (r, k0, e0)) := hr
  have hO0 : Hid (OwnR 9 st w base (.slice none 0 0) []) := (⟨by simp, .inl ⟨rfl, rfl⟩⟩ : OwnR 9 st w base (.slice none 0 0) [])
  have hB0 : Hid (Below base w w) := Below.refl _ _
  have t16 : decide (16 < n) = false := by simp; omega
  have t16' : decide ((16 : Int) < (n : Int)) = false := by simp; omega
  have hcl := hB.1
  have hcm := hB.2.1
  unfold maxLen at hcm
  clear hB hg hR hr hbase
  go_enter Try.func24, Try.ntmps24
  go_wp2_with fail
  refine (rget_is a _ cap b p _ n K 0 HG.out HB.out rfl).mono ?_
  rintro e wq ⟨rfl, hw⟩
  have hw' := hw.symm; clear hw; subst hw'
  go_wp2_with fail
  go_loopw [7, 8, 10] (fun nv kv v wr => ∃ (m kk : Nat) (o : List (List UInt8)), m ≤ n ∧ kk ≤ b.length ∧ o.length ≤ 16 - m ∧ nv = .int .u64 m ∧ kv = .int .i64 kk ∧ Hid (T.rd b m kk o = (R1, R2, R3)) ∧ Hid (OwnR 9 st wr base v o) ∧ Hid (Below base w wr)) (fun nv _ _ _ => (intOf nv).toNat)
  case atStart => exact ⟨n, K, [], by omega, hKb, by simp, rfl, rfl, HR, hO0, hB0⟩
  case round =>
    obtain ⟨m, kk, o, hm, hkk, hol, rfl, rfl, HD, HO, HBl⟩ := hrel
    clear hO0 hB0 HR
    have hEx : Ex w wr := by have := HBl.out; rw [HBa.out] at this; exact this
    have hsz : base ≤ wr.heap.size := by rw [HBa.out]; exact hEx.size
    have HEx : Hid (Ex w wr) := hEx
    clear hEx
    by_cases hm0 : m = 0
    · subst hm0
      have hD := HD.out
      simp only [T.rd, Prod.mk.injEq] at hD
      obtain ⟨rfl, rfl, rfl⟩ := hD
      have hRr := HRr.out
      rw [if_neg (by simp)] at hRr
      obtain ⟨a10, c10, hv10, hb10⟩ := HO.out.rd
      subst hv10
      have HB10 : Hid (Rd st wr a10 c10 o) := hb10
      clear HD HO hb10 HRr
      cases hadj : T.adj o with
      | true =>
        rw [hadj, if_pos rfl] at hRr
        simp only [Prod.mk.injEq] at hRr
        obtain ⟨rfl, rfl, rfl⟩ := hRr
        have HA : Hid (T.adj o = true) := hadj
        clear hadj
        go_wp2_with fail
        refine (rrising_is a10 _ c10 o _ rfl HB10.out true HA.out).mono ?_
        rintro e w1 ⟨rfl, hx1⟩
        go_wp2
        go_ret3
        exact ⟨_, rfl, ⟨a10, c10, rfl, HB10.out.below hx1⟩, HEx.out.trans hx1⟩
      | false =>
        rw [hadj, if_neg (by simp)] at hRr
        simp only [Prod.mk.injEq] at hRr
        obtain ⟨rfl, rfl, rfl⟩ := hRr
        have HA : Hid (T.adj o = false) := hadj
        clear hadj
        go_wp2_with fail
        refine (rrising_is a10 _ c10 o _ rfl HB10.out false HA.out).mono ?_
        rintro e w1 ⟨rfl, hx1⟩
        go_wp2
        go_ret3
        exact ⟨_, rfl, IsRd.nil _, HEx.out.trans hx1⟩
    · obtain ⟨m1, hm1⟩ : ∃ m1, m = m1 + 1 := ⟨m - 1, by omega⟩
      have tm : decide (0 < m) = true := by simp; omega
      have tm' : decide ((0 : Int) < (m : Int)) = true := by simp; omega
      obtain ⟨⟨s, E, e1⟩, hge⟩ : ∃ x, M.getText b (kk : Int) 40 = x := ⟨_, rfl⟩
      have hall := T.getText_all b (kk : Int) 40
      rw [hge] at hall
      have hs40 : s.length ≤ 40 := by have := hall.1; simpa using this
      have hEb : E ≤ b.length := hall.2.1
      have he12 : e1 ≤ 12 := hall.2.2.1
      have HGe : Hid (M.getText b (kk : Int) 40 = (s, E, e1)) := hge
      have hD := HD.out
      rw [hm1, T.rd, hge] at hD
      have hmi : (m : Int) - 1 = (m1 : Int) := by omega
      have hmp : 1 ≤ m := by omega
      have hm2 : m1 + 1 ≤ m := by omega
      have hm3 : m ≤ m1 + 1 := by omega
      clear hge hall HD hm1 hm0
      by_cases he : e1 = 0
      · subst he
        simp only [ne_eq, not_true_eq_false, if_false] at hD
        have HN : Hid (T.rd b m1 E (o ++ [s]) = (R1, R2, R3)) := hD
        clear hD
        go_wp2_with fail
        refine (rgetText_any a _ cap b (kk : Int) 40 _ (HB.out.below HEx.out) rfl (by omega) (by omega) s E 0 HGe.out).mono ?_
        rintro e wq ⟨rfl, hw⟩
        have hw' := hw.symm; clear hw; subst hw'
        have hov := HO.out
        go_wp2_with (at_builtin; refine wpList_append_rd (e := 9) (enc := st) rfl (.tmp 41) (.tmp 43) 22 rfl [] 16 Try.underlying22 Try.info9 rfl (fun _ => rfl) base _ o rfl (hov.alloc _) _ _ _ [s] rfl rfl (Rd.laid wr 9 [s] (by simp)) (by simp [maxLen]; omega) (by simp; omega) (by simp; omega) ?_; intro v9 w9 ho9 hg9; have X9 : Below base w w9 := step_belowR (Below.alloc HBl.out hsz _) (by simp; omega) (hov.alloc _) hg9; clear hg9)
        have HO9 : Hid (OwnR 9 st w9 base v9 (o ++ [s])) := ho9
        have HX9 : Hid (Below base w w9) := X9
        have hon : (o ++ [s]).length ≤ 16 - m1 := by simp; omega
        clear ho9 X9 hov
        go_wp2
        go_roundw
        case rel => exact ⟨m1, E, o ++ [s], by omega, hEb, hon, by go_num, rfl, HN, HO9, HX9⟩
        case measure => simp [intOf]; omega
      · rw [if_pos he] at hD
        simp only [Prod.mk.injEq] at hD
        obtain ⟨rfl, rfl, rfl⟩ := hD
        have hRr := HRr.out
        rw [if_pos he] at hRr
        simp only [Prod.mk.injEq] at hRr
        obtain ⟨rfl, rfl, rfl⟩ := hRr
        have tne : ((e1 : Int) != 0) = true := by simp; omega
        clear HRr
        go_wp2_with fail
        refine (rgetText_any a _ cap b (kk : Int) 40 _ (HB.out.below HEx.out) rfl (by omega) (by omega) s E e1 HGe.out).mono ?_
        rintro e wq ⟨rfl, hw⟩
        have hw' := hw.symm; clear hw; subst hw'
        go_wp2
        go_ret3
        exact ⟨_, rfl, IsRd.nil _, HEx.out⟩

set_option maxRecDepth 100000 in
theorem rdecode_is (a : Option Addr) (len cap : Nat) (b : List UInt8) (p : Int) (w : World) (hlen : len = b.length) (hB : Byt w a cap b) (r : List (List UInt8)) (k0 e0 : Nat) (hr : T.dec b p = (r, k0, e0)) :
    Calls Try.prog 24 #[.slice a len cap, .int .i64 p] w fun e w' => ∃ v, e = .returned (.tuple #[v, .int .i64 k0, .int .i64 e0]) ∧ IsRd st r v w' ∧ Ex w w' := by
  subst hlen
  obtain ⟨⟨n, K, e1⟩, hg⟩ : ∃ x, M.get b p = x := ⟨_, rfl⟩
  have hall := M.get_all b p
  rw [hg] at hall
  have hn64 : n < 18446744073709551616 := hall.1
  have he12 : e1 ≤ 12 := hall.2.2
  unfold T.dec at hr
  rw [hg] at hr
  simp only at hr
  clear hall
  have hcl := hB.1
  have hcm := hB.2.1
  unfold maxLen at hcm
  by_cases he : e1 = 0
  · subst he
    rw [if_neg (by simp)] at hr
    by_cases h16 : 16 < n
    · rw [if_pos h16] at hr
      simp only [Prod.mk.injEq] at hr
      obtain ⟨rfl, rfl, rfl⟩ := hr
      have HB : Hid (Byt w a cap b) := hB
      have HG : Hid (M.get b p = (n, K, 0)) := hg
      have t16 : decide (16 < n) = true := by simp; omega
      have t16' : decide ((16 : Int) < (n : Int)) = true := by simp; omega
      clear hB hg
      go_enter Try.func24, Try.ntmps24
      go_wp2_with fail
      refine (rget_is a _ cap b p _ n K 0 HG.out HB.out rfl).mono ?_
      rintro e wq ⟨rfl, hw⟩
      have hw' := hw.symm; clear hw; subst hw'
      go_wp2
      go_ret3
      exact ⟨_, rfl, IsRd.nil _, Ex.refl _⟩
    · rw [if_neg h16] at hr
      obtain ⟨⟨R1, R2, R3⟩, hR⟩ : ∃ x, T.rd b n K [] = x := ⟨_, rfl⟩
      rw [hR] at hr
      exact rdecode_main a cap b p n K w hB hg (by omega) R1 R2 R3 hR r k0 e0 hr
  · rw [if_pos he] at hr
    simp only [Prod.mk.injEq] at hr
    obtain ⟨rfl, rfl, rfl⟩ := hr
    have HB : Hid (Byt w a cap b) := hB
    have HG : Hid (M.get b p = (n, K, e1)) := hg
    have tne : ((e1 : Int) != 0) = true := by simp; omega
    clear hB hg
    go_enter Try.func24, Try.ntmps24
    go_wp2_with fail
    refine (rget_is a _ cap b p _ n K e1 HG.out HB.out rfl).mono ?_
    rintro e wq ⟨rfl, hw⟩
    have hw' := hw.symm; clear hw; subst hw'
    go_wp2
    go_ret3
    exact ⟨_, rfl, IsRd.nil _, Ex.refl _⟩
end Go.Proofs.Ytmnhoofjijiibaa
