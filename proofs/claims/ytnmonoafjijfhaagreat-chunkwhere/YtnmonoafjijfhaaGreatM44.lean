/-
  The landed chunk's head, listOf. The landed chunk's listOf, Encode.
-/
import Derived.Test.YtnmonoafjijfhaaGreatM43
namespace Go.Proofs.YtnmonoafjijfhaaGreat
open Go.RowKit
set_option linter.unusedVariables false
set_option linter.unusedSimpArgs false
theorem marks_take {l : List Ce} {k : Nat} (h : k < l.length) : Ck.marks (l.take (k + 1)) = Ck.marks (l.take k) ++ [Ck.mark l[k]] := by
  unfold Ck.marks; rw [take_snoc h, List.map_append]; rfl
theorem marks_one (l : List Ce) : ∀ x ∈ Ck.marks l, x < 18446744073709551616 := by
  intro x hx
  simp only [Ck.marks, List.mem_map] at hx
  obtain ⟨c, _, rfl⟩ := hx
  unfold Ck.mark
  split <;> decide
theorem encE_marks (l : List Ce) : R.encE (Ck.marks l) 1 = (R.enc 1 (Ck.marks l), 0) := by
  have := Ck.marks_le l
  unfold R.encE
  rw [if_neg (by omega)]
  rfl
set_option maxHeartbeats 4000000 in
set_option maxRecDepth 100000 in
theorem head_is (F : Int) (f : Nat) (a : Option Addr) (n cap : Nat) (l : List Ce) (w : World) (hF : F = f) (hf : f ≤ 3) (hn : n = l.length) (hB : RdC w a cap l) (hl : l.length ≤ 70000) (r : List UInt8) (hr : Ck.hd f l = r) (hrl : r.length ≤ 10000000000) :
    Calls Tryz.prog 30 #[.int .u64 F, .slice a n cap] w fun e w' => ∃ v, e = .returned v ∧ Own w' w.heap.size v r ∧ Ex w w' := by
  subst hF
  have HN : Hid (n = l.length) := hn
  have HB : Hid (RdC w a cap l) := hB
  have hn7 : n ≤ 70000 := by omega
  have hcl : n ≤ cap := by have := hB.1; omega
  have hcm := hB.2.1
  unfold maxLen at hcm
  obtain ⟨E, hE⟩ : ∃ E, R.enc 1 (Ck.marks l) = E := ⟨_, rfl⟩
  have HE : Hid (R.encE (Ck.marks l) 1 = (E, 0)) := (by rw [encE_marks, hE] : R.encE (Ck.marks l) 1 = (E, 0))
  have hr2 : M.digs f ++ M.digs n ++ E = r := by rw [← hr, hn, ← hE]; rfl
  have HR : Hid (M.digs f ++ M.digs n ++ E = r) := hr2
  have hEl : E.length ≤ r.length := by rw [← hr2]; simp; omega
  have hE10 : E.length ≤ 10000000000 := by omega
  have hd1 := (M.digs_len f).2
  have hd2 := (M.digs_len n).2
  clear hB hn hl hr hE hr2 hrl hEl
  go_enter Tryz.func30, Tryz.ntmps30
  go_wp2_with (at_make; refine wpList_make_row (enc := n64) rfl _ _ 77 69 rfl 0 8 Tryz.underlying77 rfl Tryz.info69 _ _ n rfl rfl rfl rfl (by omega) (by omega) ?_; intro w3 hr3 hb3)
  obtain ⟨g, hg⟩ : ∃ g, g = w.heap.size := ⟨_, rfl⟩
  rw [← hg]
  have h0R : Hid (RowAt n64 69 w3 g (Ck.marks (l.take 0) ++ List.replicate (n - 0) 0)) := (by rw [hg]; simpa [Ck.marks] using hr3 : RowAt n64 69 w3 g (Ck.marks (l.take 0) ++ List.replicate (n - 0) 0))
  have h0B : Hid (Below g w w3) := (by rw [hg]; exact hb3 : Below g w w3)
  have h0S : g < w3.heap.size := by rw [hg]; exact (Array.getElem?_eq_some_iff.1 hr3).1
  have HGb : Hid (g = w.heap.size) := hg
  clear hr3 hb3 hg
  go_loopw [6, 7, 16] (fun iv2 cv iv wr => ∃ (i : Nat), i ≤ n ∧ iv = .int .i64 (i : Int) ∧ g < wr.heap.size ∧ Hid (RowAt n64 69 wr g (Ck.marks (l.take i) ++ List.replicate (n - i) 0)) ∧ Hid (Below g w wr)) (fun iv2 cv iv wr => n - (intOf iv).toNat)
  case atStart => exact ⟨0, by omega, rfl, h0S, h0R, h0B⟩
  case round =>
    obtain ⟨i, hi, rfl, hgs, HRo, HBl⟩ := hrel
    clear h0R h0B h0S
    have hEx : Ex w wr := by have := HBl.out; rw [HGb.out] at this; exact this
    have HEx : Hid (Ex w wr) := hEx
    clear hEx
    by_cases hlt : i < n
    · have ti : (i : Int) < (n : Int) := by omega
      have hlt2 : i < l.length := by rw [← HN.out]; exact hlt
      obtain ⟨bq, off, rfl, e0, e1, e2, e3⟩ := RdC.four (HB.out.below HEx.out) hlt2
      obtain ⟨d, hd⟩ : ∃ d, l[i] = d := ⟨_, rfl⟩
      rw [hd] at e0 e1 e2 e3
      have hsn := marks_take hlt2
      rw [hd] at hsn
      obtain ⟨m1, hm1⟩ : ∃ m1, n - i = m1 + 1 := ⟨n - i - 1, by omega⟩
      have hm2 : n - (i + 1) = m1 := by omega
      obtain ⟨w1, hw1⟩ : ∃ w1, wr.alloc (cb d) = w1 := ⟨_, rfl⟩
      have hB1 : Below g w w1 := by rw [← hw1]; exact HBl.out.alloc (Nat.le_of_lt hgs) _
      have HB1 : Hid (Below g w w1) := hB1
      have hR1 : RowAt n64 69 w1 g (Ck.marks (l.take i) ++ List.replicate (n - i) 0) := by rw [← hw1]; exact HRo.out.below ((Below.refl _ _).alloc (Nat.le_refl _) _)
      have HR1 : Hid (RowAt n64 69 w1 g (Ck.marks (l.take i) ++ List.replicate (n - i) 0)) := hR1
      have hgs1 : g < w1.heap.size := by rw [← hw1]; simp; omega
      have hE1 : EAt w1 wr.heap.size d := by rw [← hw1]; exact EAt.new wr d
      obtain ⟨g0, g1, g2, g3⟩ := hE1.all
      have hml : (Ck.marks (l.take i)).length = i := by rw [Ck.marks_len]; simp; omega
      have hll : i < (Ck.marks (l.take i) ++ List.replicate (n - i) 0).length := by simp [hml]; omega
      obtain ⟨old, hco⟩ : ∃ old, w1.cell? ⟨g, i, none⟩ = some old := ⟨_, hR1.cell hll⟩
      have hfr : w1.frozen? ⟨g, i, none⟩ = false := hR1.frozen i
      by_cases h2 : d.k = 0
      · have t1 : (d.k == 0) = true := by simp [h2]
        have hmk : Ck.mark d = 1 := by simp [Ck.mark, h2]
        rw [hmk] at hsn
        have hset : RowAt n64 69 (w1.setCell ⟨g, i, none⟩ (.int .u64 1)) g (Ck.marks (l.take (i + 1)) ++ List.replicate (n - (i + 1)) 0) := by
          have h := hR1.set (k := i) 1 (v := .int .u64 1) rfl
          rw [hm1, fillz_set _ m1 i 0 1 hml.symm] at h
          rw [hsn, hm2]
          exact h
        have HRn : Hid (RowAt n64 69 (w1.setCell ⟨g, i, none⟩ (.int .u64 1)) g (Ck.marks (l.take (i + 1)) ++ List.replicate (n - (i + 1)) 0)) := hset
        have HBn : Hid (Below g w (w1.setCell ⟨g, i, none⟩ (.int .u64 1))) := hB1.setCell (p := ⟨g, i, none⟩) (Nat.le_refl _) _
        have hgs2 : g < (w1.setCell ⟨g, i, none⟩ (.int .u64 1)).heap.size := by simpa using hgs1
        clear hsn h2 hd hE1 hB1 hR1 hset hmk hm1 hm2 hml hll HRo HBl
        go_wp2_with fail
        go_roundw
        case rel => exact ⟨i + 1, by omega, by go_num, hgs2, HRn, HBn⟩
        case measure => simp [intOf]; omega
      · have t1 : (d.k == 0) = false := by simp [h2]
        have hmk : Ck.mark d = 0 := by simp [Ck.mark, h2]
        rw [hmk] at hsn
        have hrow : RowAt n64 69 w1 g (Ck.marks (l.take (i + 1)) ++ List.replicate (n - (i + 1)) 0) := by
          rw [hm1] at hR1
          rw [hsn, hm2, List.append_assoc]
          simpa [List.replicate_succ] using hR1
        have HRn : Hid (RowAt n64 69 w1 g (Ck.marks (l.take (i + 1)) ++ List.replicate (n - (i + 1)) 0)) := hrow
        clear hsn h2 hd hE1 hB1 hR1 hrow hmk hm1 hm2 hml hll HRo HBl
        go_wp2_with fail
        go_roundw
        case rel => exact ⟨i + 1, by omega, by go_num, hgs1, HRn, HB1⟩
        case measure => simp [intOf]; omega
    · have ti : ¬ (i : Int) < (n : Int) := by omega
      have him : i = n := by omega
      have hro := HRo.out
      have htl : l.take n = l := List.take_of_length_le (by rw [← HN.out]; omega)
      rw [him, Nat.sub_self, List.replicate_zero, List.append_nil, htl] at hro
      have HR6 : Hid (Rd n64 wr (some ⟨g, 0, none⟩) n (Ck.marks l)) := hro.rd (by rw [Ck.marks_len]; exact HN.out) (by omega)
      have HML : Hid (n = (Ck.marks l).length) := (by rw [Ck.marks_len]; exact HN.out : n = (Ck.marks l).length)
      have hf64 : f < 18446744073709551616 := by omega
      have hnw : IntKind.u64.wrap (n : Int) = (n : Int) := by rw [IntKind.wrap_u64]; omega
      clear hro him htl HRo
      go_wp2_with fail
      go_at_call 64
      refine (ruenc_is (some ⟨g, 0, none⟩) n n (Ck.marks l) 1 wr HML.out HR6.out (marks_one l) (by rw [← HML.out]; omega) E 0 HE.out).mono ?_
      rintro e4 w4 ⟨v4, rfl, hv4, hx4⟩
      obtain ⟨a4, c4, rfl, hb4⟩ := hv4
      have HB4 : Hid (Byt w4 a4 c4 E) := hb4
      have HX4 : Hid (Ex w w4) := HEx.out.trans hx4
      clear hb4 hx4
      go_wp2_with fail
      go_at_call 65
      refine (put_is none 0 0 [] (M.digs f) (f : Int) f w4 rfl rfl (Byt.nil _) rfl hf64 (by simp)).mono ?_
      rintro e5 w5 ⟨v5, rfl, hv5, hx5⟩
      obtain ⟨a5, c5, rfl, hb5⟩ := hv5.byt
      have HB5 : Hid (Byt w5 a5 c5 (M.digs f)) := hb5
      have HX5 : Hid (Ex w w5) := HX4.out.trans hx5
      have HE5 : Hid (Byt w5 a4 c4 E) := HB4.out.below hx5
      clear hv5 hx5 hb5 HB4
      go_wp2_with fail
      go_at_call 65
      refine (put_is a5 _ c5 (M.digs f) (M.digs f ++ M.digs n) (n : Int) n w5 rfl rfl HB5.out rfl (by omega) (by omega)).mono ?_
      rintro e6 w6 ⟨v6, rfl, hv6, hx6⟩
      have HO6 : Hid (Own w6 w5.heap.size v6 (M.digs f ++ M.digs n)) := hv6
      have HE6 : Hid (Byt w6 a4 c4 E) := HE5.out.below hx6
      have HX6 : Hid (Ex w w6) := HX5.out.trans hx6
      have hs6 : w5.heap.size ≤ w6.heap.size := hx6.size
      have hs5 : w.heap.size ≤ w5.heap.size := HX5.out.size
      clear hv6 hx6
      go_wp2_with (at_builtin; refine wpList_append_byt rfl (.tmp 40) (.tmp 41) rfl w5.heap.size _ (M.digs f ++ M.digs n) rfl HO6.out a4 _ c4 E rfl rfl HE6.out (by simp; omega) hs6 ?_; intro v9 w9 ho9 hg9; have X9 : Ex w w9 := step_below0 HX6.out HX6.out.size (HO6.out.mono hs5) hg9; clear hg9)
      rw [HR.out] at ho9
      have HO9 : Hid (Own w9 w.heap.size v9 r) := ho9.mono hs5
      clear ho9
      go_ret
      exact ⟨_, rfl, HO9.out, X9⟩
end Go.Proofs.YtnmonoafjijfhaaGreat
namespace Go.Proofs.YtnmonoafjijfhaaGreat
open Go.RowKit
set_option linter.unusedVariables false
set_option linter.unusedSimpArgs false
/-- Numbers as ints. -/
def zs (P : List Nat) : List Int := P.map fun p : Nat => (p : Int)
theorem zs_len (P : List Nat) : (zs P).length = P.length := by simp [zs]
theorem places_zs (tx : List (List UInt8)) : places (T.bld tx) tx = zs (Ck.pl tx) := by
  unfold places zs Ck.pl
  rw [List.map_map]; rfl
theorem encE_w {l : List Nat} (h : B.width l ≤ 32) : R.encE l (B.width l : Nat) = (R.enc (B.width l) l, 0) := by
  unfold R.encE
  rw [if_neg (by omega)]
  rfl
set_option maxHeartbeats 4000000 in
set_option maxRecDepth 100000 in
theorem listOf_is (a : Option Addr) (n cap : Nat) (d : List (List UInt8)) (a2 : Option Addr) (n2 c2 : Nat) (P : List Nat) (w : World) (hn : n = d.length) (hB : Rd st w a cap d) (hn2 : n2 = P.length) (hB2 : Rd z64 w a2 c2 (zs P)) (hP : P.length ≤ 70000) (hfit : T.fits d = true) (hlt : ∀ p ∈ P, p < 70000)
    (r : List UInt8) (hr : T.enc d ++ R.enc (B.width P) P = r) (hrl : r.length ≤ 10000000000) :
    Calls Tryz.prog 35 #[.slice a n cap, .slice a2 n2 c2] w fun e w' => ∃ v, e = .returned v ∧ Own w' w.heap.size v r ∧ Ex w w' := by
  have HN : Hid (n = d.length) := hn
  have HN2 : Hid (n2 = P.length) := hn2
  have HB : Hid (Rd st w a cap d) := hB
  have HB2 : Hid (Rd z64 w a2 c2 (zs P)) := hB2
  have HLT : Hid (∀ p ∈ P, p < 70000) := hlt
  have hd16 := (T.fits_iff d).1 hfit
  have HD40 : Hid (∀ x ∈ d, x.length ≤ maxLen) := fun x hx => by have := hd16.1 x hx; unfold maxLen; omega
  have hdl : d.length ≤ 70000 := by have := hd16.2.1; omega
  have hn7 : n2 ≤ 70000 := by omega
  have hcl : n2 ≤ c2 := by have := hB2.1; rw [zs_len] at this; omega
  have hcm := hB2.2.1
  unfold maxLen at hcm
  have hw32 : B.width P ≤ 32 := by rw [B.width_le]; intro p hp; have := hlt p hp; omega
  obtain ⟨D, hD⟩ : ∃ D, B.width P = D := ⟨_, rfl⟩
  have HW : Hid (B.width P = D) := hD
  obtain ⟨E, hE⟩ : ∃ E, R.enc (B.width P) P = E := ⟨_, rfl⟩
  have HE : Hid (R.encE P (D : Nat) = (E, 0)) := (by rw [← hD, encE_w hw32, hE] : R.encE P (D : Nat) = (E, 0))
  obtain ⟨C, hC⟩ : ∃ C, T.enc d = C := ⟨_, rfl⟩
  have HFit : Hid ((if T.fits d = true then (T.enc d, 0) else ([], 12)) = (C, 0)) := (by rw [if_pos hfit, hC] : (if T.fits d = true then (T.enc d, 0) else ([], 12)) = (C, 0))
  rw [hC, hE] at hr
  have HR : Hid (C ++ E = r) := hr
  have hCl : C.length + E.length ≤ 10000000000 := by rw [← hr] at hrl; simpa using hrl
  have H64 : Hid (∀ p ∈ P, p < 18446744073709551616) := fun p hp => by have := hlt p hp; omega
  have hD32 : D ≤ 32 := by omega
  clear hB hB2 hn hn2 hP hfit hlt hr hrl hd16 hw32 hD hE hC
  go_enter Tryz.func35, Tryz.ntmps35
  go_wp2_with (at_make; refine wpList_make_row (enc := n64) rfl _ _ 77 69 rfl 0 8 Tryz.underlying77 rfl Tryz.info69 _ _ n2 rfl rfl rfl rfl (by omega) (by omega) ?_; intro w3 hr3 hb3)
  obtain ⟨g, hg⟩ : ∃ g, g = w.heap.size := ⟨_, rfl⟩
  rw [← hg]
  have h0R : Hid (RowAt n64 69 w3 g (P.take 0 ++ List.replicate (n2 - 0) 0)) := (by rw [hg]; simpa using hr3 : RowAt n64 69 w3 g (P.take 0 ++ List.replicate (n2 - 0) 0))
  have h0B : Hid (Below g w w3) := (by rw [hg]; exact hb3 : Below g w w3)
  have HGb : Hid (g = w.heap.size) := hg
  clear hr3 hb3 hg
  go_loopw [6, 7, 17] (fun iv2 pv iv wr => ∃ (i : Nat), i ≤ n2 ∧ iv = .int .i64 (i : Int) ∧ Hid (RowAt n64 69 wr g (P.take i ++ List.replicate (n2 - i) 0)) ∧ Hid (Below g w wr)) (fun iv2 pv iv wr => n2 - (intOf iv).toNat)
  case atStart => exact ⟨0, by omega, rfl, h0R, h0B⟩
  case round =>
    obtain ⟨i, hi, rfl, HRo, HBl⟩ := hrel
    clear h0R h0B
    have hEx : Ex w wr := by have := HBl.out; rw [HGb.out] at this; exact this
    have HEx : Hid (Ex w wr) := hEx
    clear hEx
    by_cases hlt : i < n2
    · have ti : (i : Int) < (n2 : Int) := by omega
      have hlt2 : i < P.length := by rw [← HN2.out]; exact hlt
      obtain ⟨bq, off, rfl, hcell⟩ := (HB2.out.below HEx.out).at (k := i) (by rw [zs_len]; exact hlt2)
      obtain ⟨V, hV⟩ : ∃ V, V = P[i] := ⟨_, rfl⟩
      have hV7 : V < 70000 := by rw [hV]; exact HLT.out _ (List.getElem_mem hlt2)
      have hzi : (zs P)[i]'(by rw [zs_len]; exact hlt2) = (V : Int) := by simp [zs, hV]
      rw [hzi] at hcell
      have hc' : wr.cell? ⟨bq, off + i, none⟩ = some (.int .i64 (V : Int)) := hcell
      have hVw : IntKind.u64.wrap (V : Int) = (V : Int) := by rw [IntKind.wrap_u64]; omega
      obtain ⟨m1, hm1⟩ : ∃ m1, n2 - i = m1 + 1 := ⟨n2 - i - 1, by omega⟩
      have hll : i < (P.take i ++ List.replicate (n2 - i) 0).length := by simp; omega
      obtain ⟨old, hco⟩ : ∃ old, wr.cell? ⟨g, i, none⟩ = some old := ⟨_, HRo.out.cell hll⟩
      have hfr : wr.frozen? ⟨g, i, none⟩ = false := HRo.out.frozen i
      have hset : RowAt n64 69 (wr.setCell ⟨g, i, none⟩ (.int .u64 (V : Int))) g (P.take (i + 1) ++ List.replicate (n2 - (i + 1)) 0) := by
        have h := HRo.out.set (k := i) V (v := .int .u64 (V : Int)) rfl
        rw [hm1, hV, zn_take hlt2] at h
        rw [show n2 - (i + 1) = m1 by omega, hV]
        exact h
      have HRn : Hid (RowAt n64 69 (wr.setCell ⟨g, i, none⟩ (.int .u64 (V : Int))) g (P.take (i + 1) ++ List.replicate (n2 - (i + 1)) 0)) := hset
      have HBn : Hid (Below g w (wr.setCell ⟨g, i, none⟩ (.int .u64 (V : Int)))) := HBl.out.setCell (p := ⟨g, i, none⟩) (Nat.le_refl _) _
      clear hset hm1 hll HRo HBl hcell hV hzi
      go_wp2_with fail
      go_roundw
      case rel => exact ⟨i + 1, by omega, by go_num, HRn, HBn⟩
      case measure => simp [intOf]; omega
    · have ti : ¬ (i : Int) < (n2 : Int) := by omega
      have him : i = n2 := by omega
      have hro := HRo.out
      have htl : P.take n2 = P := List.take_of_length_le (by rw [← HN2.out]; omega)
      rw [him, Nat.sub_self, List.replicate_zero, List.append_nil, htl] at hro
      have HR6 : Hid (Rd n64 wr (some ⟨g, 0, none⟩) n2 P) := hro.rd HN2.out (by omega)
      clear hro him htl HRo
      go_wp2_with fail
      go_at_call 71
      refine (sencode_is a n cap d wr HN.out (HB.out.below HEx.out) hdl HD40.out C 0 HFit.out).mono ?_
      rintro e4 w4 ⟨v4, rfl, hv4, hx4⟩
      have HO4 : Hid (Own w4 wr.heap.size v4 C) := hv4
      have HX4 : Hid (Ex w w4) := HEx.out.trans hx4
      have HR4 : Hid (Rd n64 w4 (some ⟨g, 0, none⟩) n2 P) := HR6.out.below hx4
      have hs4 : wr.heap.size ≤ w4.heap.size := hx4.size
      clear hv4 hx4
      go_wp2_with fail
      go_at_call 72
      refine (width_is (some ⟨g, 0, none⟩) n2 n2 P w4 HN2.out HR4.out H64.out (by rw [← HN2.out]; omega) D HW.out).mono ?_
      rintro e5 w5 ⟨rfl, hx5⟩
      have HO5 : Hid (Own w5 wr.heap.size v4 C) := HO4.out.later hx5
      have HX5 : Hid (Ex w w5) := HX4.out.trans hx5
      have HR5 : Hid (Rd n64 w5 (some ⟨g, 0, none⟩) n2 P) := HR4.out.below hx5
      have hs5 : wr.heap.size ≤ w5.heap.size := Nat.le_trans hs4 hx5.size
      clear hx5
      go_wp2_with fail
      go_at_call 64
      refine (ruenc_is (some ⟨g, 0, none⟩) n2 n2 P (D : Int) w5 HN2.out HR5.out H64.out (by rw [← HN2.out]; omega) E 0 HE.out).mono ?_
      rintro e6 w6 ⟨v6, rfl, hv6, hx6⟩
      obtain ⟨a6, c6, rfl, hb6⟩ := hv6
      have HB6 : Hid (Byt w6 a6 c6 E) := hb6
      have HO6 : Hid (Own w6 wr.heap.size v4 C) := HO5.out.later hx6
      have HX6 : Hid (Ex w w6) := HX5.out.trans hx6
      have hs6 : wr.heap.size ≤ w6.heap.size := Nat.le_trans hs5 hx6.size
      have hsw : w.heap.size ≤ wr.heap.size := HEx.out.size
      clear hb6 hx6
      go_wp2_with (at_builtin; refine wpList_append_byt rfl (.tmp 40) (.tmp 41) rfl wr.heap.size _ C rfl HO6.out a6 _ c6 E rfl rfl HB6.out (by omega) hs6 ?_; intro v9 w9 ho9 hg9; have X9 : Ex w w9 := step_below0 HX6.out HX6.out.size (HO6.out.mono hsw) hg9; clear hg9)
      rw [HR.out] at ho9
      have HO9 : Hid (Own w9 w.heap.size v9 r) := ho9.mono hsw
      clear ho9
      go_ret
      exact ⟨_, rfl, HO9.out, X9⟩
/-- How long a column's bytes may be. -/
theorem Ck.enc_parts {kind : Int} {l : List Ce} (hk : kind = 1 ∨ kind = 2) (hf : l.all (Ck.fits kind) = true) (hl : l.length ≤ 65536) :
    (kind = 1 → Ck.enc kind l = Ck.hd 1 l ++ Ck.bI (Ck.n1 l)) ∧ (kind = 2 → Ck.t2 l = Ck.txts l ∧ (T.fits (T.bld (Ck.txts l)) = true → Ck.enc kind l = Ck.hd 2 l ++ (T.enc (T.bld (Ck.txts l)) ++ R.enc (B.width (Ck.pl (Ck.txts l))) (Ck.pl (Ck.txts l)))) ∧ (¬ T.fits (T.bld (Ck.txts l)) = true → Ck.enc kind l = Ck.hd 3 l ++ T.texts (Ck.txts l))) := by
  refine ⟨?_, ?_⟩
  · rintro rfl
    have : Ck.form 1 l = 1 := rfl
    unfold Ck.enc
    rw [this, Ck.n1_nums hf]
    rfl
  · rintro rfl
    refine ⟨Ck.t2_txts hf, ?_, ?_⟩
    · intro h
      have h16 := ((T.fits_iff _).1 h).2.1
      have : Ck.form 2 l = 2 := by unfold Ck.form; rw [if_neg (by decide), if_pos h16]
      unfold Ck.enc
      rw [this]
      rfl
    · intro h
      have h16 : ¬ (T.bld (Ck.txts l)).length ≤ 16 := by
        intro h2
        refine h ((T.fits_iff _).2 ⟨fun s hs => ?_, h2, T.rise_bld _⟩)
        rw [T.mem_bld] at hs
        simp only [Ck.txts, List.mem_map] at hs
        obtain ⟨c, hc, rfl⟩ := hs
        have := Ck.vals_kind hf c hc
        exact this.2.1 this.1
      have : Ck.form 2 l = 3 := by unfold Ck.form; rw [if_neg (by decide), if_neg h16]
      unfold Ck.enc
      rw [this]
      rfl
end Go.Proofs.YtnmonoafjijfhaaGreat
