/-
  The contracts of varint's GetText and PutText over the program.
-/
import Derived.Test.YtphlfajkcbhpoaaOpens
import Derived.Lib.AppendStr
namespace Go.Proofs.Ytphlfajkcbhpoaa
open Go.RowKit
set_option linter.unusedVariables false

/-- A part of the bytes. -/
theorem Byt.sub {w : World} {a : Option Addr} {cap : Nat} {l : List UInt8} (h : Byt w a cap l) (k n : Nat) (hk : k + n ≤ l.length) : Byt w (Option.map (fun x => x.add k) a) (cap - k) ((l.drop k).take n) := by
  obtain ⟨h1, h2, h3, h4⟩ := h
  have hlen : ((l.drop k).take n).length = n := by simp; omega
  refine ⟨by omega, by omega, fun ha => ?_, fun i hi => ?_⟩
  · have := h3 (by simpa using ha); omega
  · rw [hlen] at hi
    obtain ⟨b, off, rfl, hc⟩ := h4 (k + i) (by omega)
    refine ⟨b, off + k, by rw [Option.map_some, add_none], ?_⟩
    rw [show off + k + i = off + (k + i) from by omega, hc]
    have : k + i < l.length := by omega
    simp [M.bAt, hi]
theorem Byt.empty {w : World} {a : Option Addr} {cap : Nat} {l : List UInt8} (h : Byt w a cap l) : Byt w a cap [] := ⟨by simp, h.2.1, h.2.2.1, fun i hi => by simp at hi⟩
theorem Byt.none_ {w : World} (a : Option Addr) : Byt w a 0 [] := ⟨by simp, by simp [maxLen], fun _ => rfl, fun i hi => by simp at hi⟩

set_option maxRecDepth 100000 in
theorem getText_ok (a : Option Addr) (cap : Nat) (l : List UInt8) (p most : Int) (n k : Nat) (w : World) (hB : Byt w a cap l) (hg : M.get l p = (n, k, 0)) (hm : n ≤ most.toNat) (hl : k + n ≤ l.length) (h1 : -9223372036854775808 ≤ most) (h2 : most ≤ 9223372036854775807) :
    Calls Try.prog 11 #[.slice a l.length cap, .int .i64 p, .int .i64 most] w fun e w' => e = .returned (.tuple #[.string (str ((l.drop k).take n)), .int .i64 (k + n : Nat), .int .i64 0]) ∧ w' = w := by
  have hcm := hB.2.1
  have hlc := hB.1
  unfold maxLen at hcm
  have hlen : l.length ≤ 9223372036854775807 := by omega
  have HG : Hid (M.get l p = (n, k, 0)) := hg
  have HB : Hid (Byt w a cap l) := hB
  obtain ⟨t, ht⟩ : ∃ t, t = (l.drop k).take n := ⟨_, rfl⟩
  have htl : n = t.length := by rw [ht]; simp; omega
  have HT : Hid (n = t.length) := htl
  have hs1 : Byt w (Option.map (fun x => x.add k) a) (cap - k) t := ht ▸ hB.sub k n hl
  rw [← ht]
  clear hg hB htl ht
  by_cases hm0 : most < 0
  · have hn0 : n = 0 := by omega
    subst hn0
    have ht0 : t = [] := List.eq_nil_of_length_eq_zero HT.out.symm
    subst ht0
    by_cases hck : cap = k
    · subst hck
      have hr := run_str (n := 0) (Byt.none_ (w := w) a) rfl
      go_enter Try.func11, Try.ntmps11
      go_wp2_with fail
      refine (get_is a _ cap l p _ 0 cap 0 HG.out HB.out rfl).mono ?_
      rintro e w1 ⟨rfl, rfl⟩
      go_wp2_with fail
      go_ret3
      exact ⟨ret3 rfl (I.int_num (by omega)) rfl, rfl⟩
    · have hr := run_str hs1 HT.out
      clear hs1
      go_enter Try.func11, Try.ntmps11
      go_wp2_with fail
      refine (get_is a _ cap l p _ 0 k 0 HG.out HB.out rfl).mono ?_
      rintro e w1 ⟨rfl, rfl⟩
      go_wp2_with fail
      go_ret3
      exact ⟨ret3 rfl (I.int_num (by omega)) rfl, rfl⟩
  · obtain ⟨m, rfl⟩ := Int.eq_ofNat_of_zero_le (show 0 ≤ most by omega)
    have hm' : n ≤ m := by simpa using hm
    clear hm
    by_cases hck : cap = k
    · have hn0 : n = 0 := by omega
      subst hn0
      have ht0 : t = [] := List.eq_nil_of_length_eq_zero HT.out.symm
      subst ht0
      subst hck
      have hr := run_str (n := 0) (Byt.none_ (w := w) a) rfl
      go_enter Try.func11, Try.ntmps11
      go_wp2_with fail
      refine (get_is a _ cap l p _ 0 cap 0 HG.out HB.out rfl).mono ?_
      rintro e w1 ⟨rfl, rfl⟩
      go_wp2_with fail
      go_ret3
      exact ⟨ret3 rfl (I.int_num (by omega)) rfl, rfl⟩
    · have hr := run_str hs1 HT.out
      clear hs1
      go_enter Try.func11, Try.ntmps11
      go_wp2_with fail
      refine (get_is a _ cap l p _ n k 0 HG.out HB.out rfl).mono ?_
      rintro e w1 ⟨rfl, rfl⟩
      go_wp2_with fail
      go_ret3
      exact ⟨ret3 rfl (I.int_num (by omega)) rfl, rfl⟩

set_option maxRecDepth 100000 in
theorem getText_why (a : Option Addr) (cap : Nat) (l : List UInt8) (p most : Int) (n k e0 : Nat) (w : World) (hB : Byt w a cap l) (hg : M.get l p = (n, k, e0)) (he : e0 ≠ 0) (he2 : e0 ≤ 12) :
    Calls Try.prog 11 #[.slice a l.length cap, .int .i64 p, .int .i64 most] w fun e w' => e = .returned (.tuple #[.string (str []), .int .i64 0, .int .i64 e0]) ∧ w' = w := by
  have HG : Hid (M.get l p = (n, k, e0)) := hg
  have HB : Hid (Byt w a cap l) := hB
  have hne : ((e0 : Int) != 0) = true := by simp; omega
  clear hg hB
  go_enter Try.func11, Try.ntmps11
  go_wp2_with fail
  refine (get_is a _ cap l p _ n k e0 HG.out HB.out rfl).mono ?_
  rintro e w1 ⟨rfl, rfl⟩
  go_wp2_with fail
  go_ret3
  exact ⟨ret3 rfl rfl rfl, rfl⟩

set_option maxRecDepth 100000 in
theorem getText_long (a : Option Addr) (cap : Nat) (l : List UInt8) (p most : Int) (n k : Nat) (w : World) (hB : Byt w a cap l) (hg : M.get l p = (n, k, 0)) (hm : most.toNat < n) (hn : n < 18446744073709551616) (h1 : -9223372036854775808 ≤ most) (h2 : most ≤ 9223372036854775807) :
    Calls Try.prog 11 #[.slice a l.length cap, .int .i64 p, .int .i64 most] w fun e w' => e = .returned (.tuple #[.string (str []), .int .i64 0, .int .i64 3]) ∧ w' = w := by
  have HG : Hid (M.get l p = (n, k, 0)) := hg
  have HB : Hid (Byt w a cap l) := hB
  clear hg hB
  by_cases hm0 : most < 0
  · have hm1 : 0 < n := by omega
    go_enter Try.func11, Try.ntmps11
    go_wp2_with fail
    refine (get_is a _ cap l p _ n k 0 HG.out HB.out rfl).mono ?_
    rintro e w1 ⟨rfl, rfl⟩
    go_wp2_with fail
    go_ret3
    exact ⟨ret3 rfl rfl rfl, rfl⟩
  · obtain ⟨m, rfl⟩ := Int.eq_ofNat_of_zero_le (show 0 ≤ most by omega)
    have hm' : m < n := by simpa using hm
    clear hm
    go_enter Try.func11, Try.ntmps11
    go_wp2_with fail
    refine (get_is a _ cap l p _ n k 0 HG.out HB.out rfl).mono ?_
    rintro e w1 ⟨rfl, rfl⟩
    go_wp2_with fail
    go_ret3
    exact ⟨ret3 rfl rfl rfl, rfl⟩

set_option maxRecDepth 100000 in
theorem getText_lacks (a : Option Addr) (cap : Nat) (l : List UInt8) (p most : Int) (n k : Nat) (w : World) (hB : Byt w a cap l) (hg : M.get l p = (n, k, 0)) (hm : n ≤ most.toNat) (hk : k ≤ l.length) (hl : l.length - k < n) (hn : n < 18446744073709551616) (h1 : -9223372036854775808 ≤ most) (h2 : most ≤ 9223372036854775807) :
    Calls Try.prog 11 #[.slice a l.length cap, .int .i64 p, .int .i64 most] w fun e w' => e = .returned (.tuple #[.string (str []), .int .i64 0, .int .i64 10]) ∧ w' = w := by
  have hcm := hB.2.1
  have hlc := hB.1
  unfold maxLen at hcm
  have hlen : l.length ≤ 9223372036854775807 := by omega
  have HG : Hid (M.get l p = (n, k, 0)) := hg
  have HB : Hid (Byt w a cap l) := hB
  clear hg hB
  obtain ⟨m, rfl⟩ := Int.eq_ofNat_of_zero_le (show 0 ≤ most by omega)
  have hm' : n ≤ m := by simpa using hm
  clear hm
  go_enter Try.func11, Try.ntmps11
  go_wp2_with fail
  refine (get_is a _ cap l p _ n k 0 HG.out HB.out rfl).mono ?_
  rintro e w1 ⟨rfl, rfl⟩
  go_wp2_with fail
  go_ret3
  exact ⟨ret3 rfl rfl rfl, rfl⟩

/-- GetText, of any bytes, at any place. -/
theorem getText_any (a : Option Addr) (len cap : Nat) (l : List UInt8) (p most : Int) (w : World) (hB : Byt w a cap l) (hn : len = l.length) (h1 : -9223372036854775808 ≤ most) (h2 : most ≤ 9223372036854775807) (t : List UInt8) (k e0 : Nat) (hr : M.getText l p most = (t, k, e0)) :
    Calls Try.prog 11 #[.slice a len cap, .int .i64 p, .int .i64 most] w fun e w' => e = .returned (.tuple #[.string (str t), .int .i64 k, .int .i64 e0]) ∧ w' = w := by
  subst hn
  have hb := M.get_all l p
  obtain ⟨⟨n, k1, e1⟩, hg⟩ : ∃ x, M.get l p = x := ⟨_, rfl⟩
  unfold M.getText at hr
  rw [hg] at hr hb
  simp only at hr hb
  by_cases h : e1 = 0
  · subst h
    rw [if_neg (by simp)] at hr
    by_cases h' : most.toNat < n
    · rw [if_pos h'] at hr
      simp only [Prod.mk.injEq] at hr
      obtain ⟨rfl, rfl, rfl⟩ := hr
      exact getText_long a cap l p most n k1 w hB hg h' hb.1 h1 h2
    · rw [if_neg h'] at hr
      by_cases h3 : l.length - k1 < n
      · rw [if_pos h3] at hr
        simp only [Prod.mk.injEq] at hr
        obtain ⟨rfl, rfl, rfl⟩ := hr
        exact getText_lacks a cap l p most n k1 w hB hg (by omega) hb.2.1 h3 hb.1 h1 h2
      · rw [if_neg h3] at hr
        simp only [Prod.mk.injEq] at hr
        obtain ⟨rfl, rfl, rfl⟩ := hr
        exact getText_ok a cap l p most n k1 w hB hg (by omega) (by omega) h1 h2
  · rw [if_pos h] at hr
    simp only [Prod.mk.injEq] at hr
    obtain ⟨rfl, rfl, rfl⟩ := hr
    exact getText_why a cap l p most n k1 e1 w hB hg h hb.2.2

theorem room_is (a : Option Addr) (n cap : Nat) (l : List UInt8) (R : Int) (r : Nat) (w : World) (hB : Byt w a cap l) (hn : n = l.length) (hR : R = r) (hr : l.length + r ≤ 281474976710656) :
    Calls Try.prog 27 #[.slice a n cap, .int .i64 R] w fun e w' => ∃ v', e = .returned v' ∧ Own w' w.heap.size v' l ∧ Below w.heap.size w w' := by
  subst hn; subst hR; exact room_any a cap l r w hB hr
theorem addNumber_is (base : Nat) (v : Value) (l : List UInt8) (N : Int) (n : Nat) (w : World) (hN : N = n) (hv : Own w base v l) (hn : n < 18446744073709551616) (hlen : l.length + 10 ≤ 140737488355328) (hb : base ≤ w.heap.size) :
    Calls Try.prog 26 #[v, .int .u64 N] w fun e w' => ∃ v', e = .returned v' ∧ Own w' base v' (l ++ M.digs n) ∧ Below base w w' := by
  subst hN; exact addNumber_any base v l n w hv hn hlen hb
theorem own_text {w : World} {base : Nat} {v : Value} {l s : List UInt8} {k : Nat} (h : w.ownsRow base 5 1 v k (cs l ++ Lib.strCells (str s))) (hk : k = l.length + s.length) : Own w base v (l ++ s) := by
  subst hk
  show w.ownsRow base 5 1 v (l ++ s).length (cs (l ++ s))
  have e : Lib.strCells (str s) = cs s := by simp [Lib.strCells, cs, str]
  rw [e] at h
  rw [cs_append, List.length_append]
  exact h
theorem step_below0 {base : Nat} {w wr w1 : World} {v : Value} {l : List UInt8} (hbel : Below base w wr) (hsz : base ≤ wr.heap.size) (hown : Own wr base v l) (hg : wr.grownBy w1 v.ownBlock) : Below base w w1 :=
  hbel.grown hg hsz (fun k hk => (World.ownsRow.lt hown k hk).1)

set_option maxRecDepth 100000 in
/-- PutText: b's bytes, the length's and the text's, in new memory. -/
theorem putText_any (a : Option Addr) (cap : Nat) (l s r : List UInt8) (w : World) (hB : Byt w a cap l) (hr : l ++ M.digs s.length ++ s = r) (hlen : l.length + 10 + s.length ≤ 140737488355328) :
    Calls Try.prog 19 #[.slice a l.length cap, .string (str s)] w fun e w' => ∃ v', e = .returned v' ∧ Own w' w.heap.size v' r ∧ Below w.heap.size w w' := by
  subst hr
  obtain ⟨i0, hi, hz0, hz1, hz2⟩ := info_parts Try.info5
  have hD := M.digs_len s.length
  have hss : (str s).size = s.length := str_size s
  go_enter Try.func19, Try.ntmps19
  go_wp2_with fail
  refine (room_is a _ cap l _ (10 + s.length) _ hB rfl (by omega) (by omega)).mono ?_
  rintro e w1 ⟨v1, rfl, ho1, hb1⟩
  go_wp2_with fail
  refine (addNumber_is _ v1 l _ s.length _ (by omega) ho1 (by omega) (by omega) hb1.size).mono ?_
  rintro e w2 ⟨v2, rfl, ho2, hb2⟩
  have hsz : w.heap.size ≤ w2.heap.size := Nat.le_trans hb1.size hb2.size
  have hb3 := hb1.trans hb2
  clear hb1 hb2 ho1 hB
  go_wp2_with (at_builtin; refine Lib.wpList_append_own_string _ rfl (.tmp 16) (.tmp 17) 22 9 rfl w.heap.size 5 i0 Try.underlying22 Try.underlying9 hi hz0 hz1 hz2 _ _ _ rfl ho2 (str s) rfl ?c1 ?c2 ?c3 ?_)
  case c1 => rw [hss, List.length_append]; unfold maxLen; omega
  case c2 => rw [hss, List.length_append]; omega
  case c3 => exact hsz
  intro v3 w3 ho3 hg3 _
  have hb4 := step_below0 hb3 hsz ho2 hg3
  have ho4 : Own w3 w.heap.size v3 (l ++ M.digs s.length ++ s) := own_text ho3 (by rw [List.length_append])
  clear ho2 ho3 hg3 hb3
  go_wp2
  go_ret
  exact ⟨_, rfl, ho4, hb4⟩
end Go.Proofs.Ytphlfajkcbhpoaa
