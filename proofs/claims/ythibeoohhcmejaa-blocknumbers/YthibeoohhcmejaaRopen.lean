/-
  The document's own Open (layer 6) over the program.
-/
import Derived.Test.YthibeoohhcmejaaRseal
namespace Go.Proofs.Ythibeoohhcmejaa
open Go.RowKit
set_option linter.unusedVariables false

theorem Byt.from {w : World} {b off cap : Nat} {l : List UInt8} (h : Byt w (some ⟨b, off, none⟩) cap l) (k : Nat) (hk : k ≤ l.length) : Byt w (some ⟨b, off + k, none⟩) (cap - k) (l.drop k) := by
  have := h.sub k (l.length - k) (by omega)
  rw [List.take_of_length_le (by simp)] at this
  simpa [add_none] using this
theorem Byt.part {w : World} {b off cap : Nat} {l : List UInt8} (h : Byt w (some ⟨b, off, none⟩) cap l) (k n : Nat) (hk : k + n ≤ l.length) : Byt w (some ⟨b, off + k, none⟩) (cap - k) ((l.drop k).take n) := by
  have := h.sub k n hk
  simpa [add_none] using this
theorem Byt.some_ {w : World} {a : Option Addr} {cap : Nat} {l : List UInt8} (h : Byt w a cap l) (h0 : 0 < l.length) : ∃ b off, a = some ⟨b, off, none⟩ := by
  obtain ⟨b, off, rfl, _⟩ := h.2.2.2 0 h0
  exact ⟨b, off, rfl⟩

set_option maxRecDepth 100000 in
set_option maxHeartbeats 1000000 in
/-- Open, at a place that is there: what it answers, by what begins there. -/
theorem ropen_in (a : Option Addr) (cap : Nat) (l : List UInt8) (p : Nat) (w : World) (hB : Byt w a cap l) (hbl : l.length ≤ 281474976710656) (hp : p ≤ l.length) (x : List UInt8) (k e0 : Nat) (hr : K.opn (l.drop p) = (x, k, e0)) :
    Calls Try.prog 18 #[.slice a l.length cap, .int .i64 p] w fun e w' => ∃ v, e = .returned (.tuple #[v, .int .i64 ((if e0 = 0 then p + k else 0 : Nat) : Int), .int .i64 e0]) ∧ Own w' w.heap.size v x ∧ Ex w w' := by
  have hcl := hB.1
  have hcm := hB.2.1
  unfold maxLen at hcm
  have q1 : decide ((p : Int) < 0) = false := by simp
  have q2 : decide ((l.length : Int) < (p : Int)) = false := by simp; omega
  unfold K.opn at hr
  have hdl : (l.drop p).length = l.length - p := by simp
  rw [hdl] at hr
  by_cases c8 : l.length - p < 8
  · rw [if_pos c8] at hr
    simp only [Prod.mk.injEq] at hr
    obtain ⟨rfl, rfl, rfl⟩ := hr
    have q3 : decide ((l.length : Int) - (p : Int) < 8) = true := by simp; omega
    clear hB
    go_enter Try.func18, Try.ntmps18
    go_wp2
    go_ret3
    exact ⟨_, rfl, own_none _ _, Ex.refl _⟩
  · rw [if_neg c8] at hr
    obtain ⟨b, off, rfl⟩ := hB.some_ (by omega)
    have q3 : decide ((l.length : Int) - (p : Int) < 8) = false := by simp; omega
    obtain ⟨n, hn⟩ : ∃ n, K.num (l.drop p) = n := ⟨_, rfl⟩
    obtain ⟨m, hm⟩ : ∃ m, K.num (l.drop (p + 4)) = m := ⟨_, rfl⟩
    have hnl := K.num_lt (l.drop p)
    have hml := K.num_lt (l.drop (p + 4))
    rw [List.drop_drop, hm, hn] at hr
    rw [hn] at hnl
    rw [hm] at hml
    have HB : Hid (Byt w (some ⟨b, off, none⟩) cap l) := hB
    have HN : Hid (K.num (l.drop p) = n) := hn
    have HM : Hid (K.num (l.drop (p + 4)) = m) := hm
    have hx := I.xor32m (n : Int) (by omega) (by omega)
    have hsg : IntKind.u32.signed = false := rfl
    have hne1 : ¬ cap - p = 0 := by omega
    have hne2 : ¬ cap - (p + 4) = 0 := by omega
    clear hB hn hm
    by_cases c4 : m = 4294967295 - n
    · rw [if_neg (by simp [c4])] at hr
      have q4 : ((m : Int) != bits .xor .u32 (if IntKind.u32.signed = true then -1 else IntKind.u32.max) (n : Int)) = false := by rw [show (if IntKind.u32.signed = true then -1 else IntKind.u32.max) = IntKind.u32.max from rfl, hx]; simp; omega
      have c4a : m ≤ 4294967295 - n := by omega
      have c4b : 4294967295 - n ≤ m := by omega
      clear c4
      by_cases cm : 1048576 < n
      · rw [if_pos cm] at hr
        simp only [Prod.mk.injEq] at hr
        obtain ⟨rfl, rfl, rfl⟩ := hr
        have q5 : decide (1048576 < (n : Int)) = true := by simp; omega
        have q5' : decide (1048576 < n) = true := by simp; omega
        go_enter Try.func18, Try.ntmps18
        go_wp2_with fail
        refine (rget_is _ _ _ (l.drop p) _ n HN.out (HB.out.from p (by omega)) (by simp) (by simp; omega)).mono ?_
        rintro e w1 ⟨rfl, hx1⟩
        go_wp2_with fail
        refine (rget_is _ _ _ (l.drop (p + 4)) _ m HM.out ((HB.out.below hx1).from (p + 4) (by omega)) (by simp) (by simp; omega)).mono ?_
        rintro e w2 ⟨rfl, hx2⟩
        have hx02 : Ex w w2 := hx1.trans hx2
        go_wp2
        go_ret3
        exact ⟨_, rfl, own_none _ _, hx02⟩
      · rw [if_neg cm] at hr
        have q5 : decide (1048576 < (n : Int)) = false := by simp; omega
        have q5' : decide (1048576 < n) = false := by simp; omega
        by_cases cn : l.length - p < n + 12
        · rw [if_pos cn] at hr
          simp only [Prod.mk.injEq] at hr
          obtain ⟨rfl, rfl, rfl⟩ := hr
          have q6 : decide ((l.length : Int) - (p : Int) - 8 < (n : Int) + 4) = true := by simp; omega
          go_enter Try.func18, Try.ntmps18
          go_wp2_with fail
          refine (rget_is _ _ _ (l.drop p) _ n HN.out (HB.out.from p (by omega)) (by simp) (by simp; omega)).mono ?_
          rintro e w1 ⟨rfl, hx1⟩
          go_wp2_with fail
          refine (rget_is _ _ _ (l.drop (p + 4)) _ m HM.out ((HB.out.below hx1).from (p + 4) (by omega)) (by simp) (by simp; omega)).mono ?_
          rintro e w2 ⟨rfl, hx2⟩
          have hx02 : Ex w w2 := hx1.trans hx2
          go_wp2
          go_ret3
          exact ⟨_, rfl, own_none _ _, hx02⟩
        · rw [if_neg cn] at hr
          have q6 : decide ((l.length : Int) - (p : Int) - 8 < (n : Int) + 4) = false := by simp; omega
          obtain ⟨X, hX⟩ : ∃ X, (l.drop (p + 8)).take n = X := ⟨_, rfl⟩
          obtain ⟨C, hC⟩ : ∃ C, S.crc X = C := ⟨_, rfl⟩
          obtain ⟨E, hE⟩ : ∃ E, K.num (l.drop (p + 8 + n)) = E := ⟨_, rfl⟩
          have hXl : X.length = n := by rw [← hX]; simp; omega
          rw [List.drop_drop, List.drop_drop, show p + (8 + n) = p + 8 + n from by omega, hX, hC, hE] at hr
          have HX : Hid ((l.drop (p + 8)).take n = X) := hX
          have HC : Hid (S.crc X = C) := hC
          have HE : Hid (K.num (l.drop (p + 8 + n)) = E) := hE
          have HXl : Hid (X.length = n) := hXl
          have hne3 : ¬ cap - (p + 8) = 0 := by omega
          have hne4 : ¬ cap - (p + 8 + n) = 0 := by omega
          have hpn : p + 8 + n ≤ l.length := by omega
          clear hX hC hE hXl
          by_cases cc : E = C
          · rw [if_neg (by simp [cc])] at hr
            simp only [Prod.mk.injEq] at hr
            obtain ⟨rfl, rfl, rfl⟩ := hr
            have q7 : ((E : Int) != (C : Int)) = false := by simp; omega
            have cca : E ≤ C := by omega
            have ccb : C ≤ E := by omega
            clear cc
            go_enter Try.func18, Try.ntmps18
            go_wp2_with fail
            refine (rget_is _ _ _ (l.drop p) _ n HN.out (HB.out.from p (by omega)) (by simp) (by simp; omega)).mono ?_
            rintro e w1 ⟨rfl, hx1⟩
            go_wp2_with fail
            refine (rget_is _ _ _ (l.drop (p + 4)) _ m HM.out ((HB.out.below hx1).from (p + 4) (by omega)) (by simp) (by simp; omega)).mono ?_
            rintro e w2 ⟨rfl, hx2⟩
            have hx02 : Ex w w2 := hx1.trans hx2
            have HX02 : Hid (Ex w w2) := hx02
            have hb2 := (HB.out.below hx02).part (p + 8) n (by omega)
            rw [HX.out] at hb2
            clear hx1 hx2 hx02
            go_wp2_with (first
              | (refine wpList_build_own rfl 45 rfl 0 [] rfl (by decide) (fun _ => by kernel_rfl) w.heap.size (Ex.size HX02.out) ?_; intro g45 w45 ho45 hx45)
              | (at_builtin; refine wpList_append_byt rfl (.tmp 45) (.tmp 54) rfl w.heap.size _ [] rfl ho45 _ _ _ X rfl (by have := HXl.out; omega) (hb2.below hx45) (by have := HXl.out; simp; omega) (Ex.size (HX02.out.trans hx45)) ?_; intro v55 w55 ho55 hg55; have X55 : Ex w w55 := step_below0 (HX02.out.trans hx45) (Ex.size (HX02.out.trans hx45)) ho45 hg55; clear hg55; rw [List.nil_append] at ho55))
            have HX55 : Hid (Ex w w55) := X55
            have HO55 : Hid (Own w55 w.heap.size v55 X) := ho55
            clear X55 ho55 ho45 hx45 hb2
            refine (rget_is _ _ _ (l.drop (p + 8 + n)) _ E HE.out ((HB.out.below HX55.out).from (p + 8 + n) (by omega)) (by simp) (by simp; omega)).mono ?_
            rintro e w3 ⟨rfl, hx3⟩
            have HX3 : Hid (Ex w w3) := HX55.out.trans hx3
            have HO3 : Hid (Own w3 w.heap.size v55 X) := HO55.out.later hx3
            obtain ⟨p3, c3, hv3, hb3⟩ := HO3.out.byt
            subst hv3
            clear hx3
            go_wp2_with fail
            refine (rcrc_is p3 _ c3 X _ C HC.out hb3 (by first | rfl | omega)).mono ?_
            rintro e wq ⟨rfl, hw⟩
            have hw' := hw.symm; clear hw; subst hw'
            go_wp2
            go_ret3
            exact ⟨_, ret3 rfl (I.int_num (by omega)) rfl, HO3.out, HX3.out⟩
          · rw [if_pos (by simpa using cc)] at hr
            simp only [Prod.mk.injEq] at hr
            obtain ⟨rfl, rfl, rfl⟩ := hr
            have q7 : ((E : Int) != (C : Int)) = true := by simp; omega
            clear cc
            go_enter Try.func18, Try.ntmps18
            go_wp2_with fail
            refine (rget_is _ _ _ (l.drop p) _ n HN.out (HB.out.from p (by omega)) (by simp) (by simp; omega)).mono ?_
            rintro e w1 ⟨rfl, hx1⟩
            go_wp2_with fail
            refine (rget_is _ _ _ (l.drop (p + 4)) _ m HM.out ((HB.out.below hx1).from (p + 4) (by omega)) (by simp) (by simp; omega)).mono ?_
            rintro e w2 ⟨rfl, hx2⟩
            have hx02 : Ex w w2 := hx1.trans hx2
            have HX02 : Hid (Ex w w2) := hx02
            have hb2 := (HB.out.below hx02).part (p + 8) n (by omega)
            rw [HX.out] at hb2
            clear hx1 hx2 hx02
            go_wp2_with (first
              | (refine wpList_build_own rfl 45 rfl 0 [] rfl (by decide) (fun _ => by kernel_rfl) w.heap.size (Ex.size HX02.out) ?_; intro g45 w45 ho45 hx45)
              | (at_builtin; refine wpList_append_byt rfl (.tmp 45) (.tmp 54) rfl w.heap.size _ [] rfl ho45 _ _ _ X rfl (by have := HXl.out; omega) (hb2.below hx45) (by have := HXl.out; simp; omega) (Ex.size (HX02.out.trans hx45)) ?_; intro v55 w55 ho55 hg55; have X55 : Ex w w55 := step_below0 (HX02.out.trans hx45) (Ex.size (HX02.out.trans hx45)) ho45 hg55; clear hg55; rw [List.nil_append] at ho55))
            have HX55 : Hid (Ex w w55) := X55
            have HO55 : Hid (Own w55 w.heap.size v55 X) := ho55
            clear X55 ho55 ho45 hx45 hb2
            refine (rget_is _ _ _ (l.drop (p + 8 + n)) _ E HE.out ((HB.out.below HX55.out).from (p + 8 + n) (by omega)) (by simp) (by simp; omega)).mono ?_
            rintro e w3 ⟨rfl, hx3⟩
            have HX3 : Hid (Ex w w3) := HX55.out.trans hx3
            have HO3 : Hid (Own w3 w.heap.size v55 X) := HO55.out.later hx3
            obtain ⟨p3, c3, hv3, hb3⟩ := HO3.out.byt
            subst hv3
            clear hx3
            go_wp2_with fail
            refine (rcrc_is p3 _ c3 X _ C HC.out hb3 (by first | rfl | omega)).mono ?_
            rintro e wq ⟨rfl, hw⟩
            have hw' := hw.symm; clear hw; subst hw'
            go_wp2
            go_ret3
            exact ⟨_, rfl, own_none _ _, HX3.out⟩
    · rw [if_pos (by simpa using c4)] at hr
      simp only [Prod.mk.injEq] at hr
      obtain ⟨rfl, rfl, rfl⟩ := hr
      have q4 : ((m : Int) != bits .xor .u32 (if IntKind.u32.signed = true then -1 else IntKind.u32.max) (n : Int)) = true := by rw [show (if IntKind.u32.signed = true then -1 else IntKind.u32.max) = IntKind.u32.max from rfl, hx]; simp; omega
      go_enter Try.func18, Try.ntmps18
      go_wp2_with fail
      refine (rget_is _ _ _ (l.drop p) _ n HN.out (HB.out.from p (by omega)) (by simp) (by simp; omega)).mono ?_
      rintro e w1 ⟨rfl, hx1⟩
      go_wp2_with fail
      refine (rget_is _ _ _ (l.drop (p + 4)) _ m HM.out ((HB.out.below hx1).from (p + 4) (by omega)) (by simp) (by simp; omega)).mono ?_
      rintro e w2 ⟨rfl, hx2⟩
      have hx02 : Ex w w2 := hx1.trans hx2
      go_wp2
      go_ret3
      exact ⟨_, rfl, own_none _ _, hx02⟩
set_option maxRecDepth 100000 in
theorem ropen_arg (a : Option Addr) (cap : Nat) (l : List UInt8) (p : Int) (w : World) (hB : Byt w a cap l) (hp : p < 0 ∨ (l.length : Int) < p) :
    Calls Try.prog 18 #[.slice a l.length cap, .int .i64 p] w fun e w' => e = .returned (.tuple #[.slice none 0 0, .int .i64 0, .int .i64 1]) ∧ w' = w := by
  have hcl := hB.1
  have hcm := hB.2.1
  unfold maxLen at hcm
  clear hB
  by_cases h0 : p < 0
  · have q1 : decide (p < 0) = true := by simp; omega
    go_enter Try.func18, Try.ntmps18
    go_wp2
    go_ret3
    exact ⟨rfl, rfl⟩
  · have q1 : decide (p < 0) = false := by simp; omega
    have q2 : decide ((l.length : Int) < p) = true := by simp; omega
    clear hp
    go_enter Try.func18, Try.ntmps18
    go_wp2
    go_ret3
    exact ⟨rfl, rfl⟩
theorem ropen_is (a : Option Addr) (len cap : Nat) (l : List UInt8) (p : Int) (w : World) (hlen : len = l.length) (hB : Byt w a cap l) (hbl : l.length ≤ 281474976710656) (x : List UInt8) (k0 e0 : Nat) (hr : K.opens l p = (x, k0, e0)) :
    Calls Try.prog 18 #[.slice a len cap, .int .i64 p] w fun e w' => ∃ v, e = .returned (.tuple #[v, .int .i64 k0, .int .i64 e0]) ∧ Own w' w.heap.size v x ∧ Ex w w' := by
  subst hlen
  unfold K.opens at hr
  by_cases hp : p < 0 ∨ (l.length : Int) < p
  · rw [if_pos hp] at hr
    simp only [Prod.mk.injEq] at hr
    obtain ⟨rfl, rfl, rfl⟩ := hr
    refine (ropen_arg a cap l p w hB hp).mono ?_
    rintro e w' ⟨rfl, rfl⟩
    exact ⟨_, rfl, own_none _ _, Ex.refl _⟩
  · rw [if_neg hp] at hr
    obtain ⟨n, rfl⟩ := Int.eq_ofNat_of_zero_le (show 0 ≤ p by omega)
    rw [Int.toNat_natCast] at hr
    obtain ⟨⟨y, k, e1⟩, ho⟩ : ∃ z, K.opn (l.drop n) = z := ⟨_, rfl⟩
    have he := K.opn_err_le (l.drop n)
    rw [ho] at hr he
    simp only at hr he
    refine (ropen_in a cap l n w hB hbl (by omega) y k e1 ho).mono ?_
    rintro e w' ⟨v, rfl, h1, h2⟩
    refine ⟨v, ?_, ?_, h2⟩
    · split at hr
      · rename_i h0
        simp only [Prod.mk.injEq] at hr
        rw [if_neg h0, hr.2.1, hr.2.2]
      · rename_i h0
        simp only [Prod.mk.injEq] at hr
        rw [if_pos (by omega), hr.2.1, show e1 = e0 from by omega]
    · split at hr
      · simp only [Prod.mk.injEq] at hr
        rcases he with he | he
        · contradiction
        · rw [← hr.1, ← he.1]; exact h1
      · simp only [Prod.mk.injEq] at hr
        rw [← hr.1]; exact h1
end Go.Proofs.Ythibeoohhcmejaa
