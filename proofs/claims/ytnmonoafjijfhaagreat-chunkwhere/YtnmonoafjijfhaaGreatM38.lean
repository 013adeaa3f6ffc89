/-
  The landed Build, Encode and Decode. The landed Decode.
-/
import Derived.Test.YtnmonoafjijfhaaGreatM37
namespace Go.Proofs.YtnmonoafjijfhaaGreat
open Go.RowKit
set_option linter.unusedVariables false

theorem bld_same {l S : List (List UInt8)} (h : ∀ x, x ∈ S ↔ x ∈ l) : T.bld S = T.bld l := T.rise_same (T.rise_bld S) (T.rise_bld l) (fun x => by rw [T.mem_bld, T.mem_bld, h])
theorem set_next {D l : List (List UInt8)} {k : Nat} (hk : k < l.length) (p : Int) (hp : ((T.place D l[k] : Nat) : Int) = p) : (places D (l.take k) ++ List.replicate (l.length - k) (0 : Int)).set k p = places D (l.take (k + 1)) ++ List.replicate (l.length - (k + 1)) 0 := by
  have h1 : (places D (l.take k)).length = k := by rw [places_len]; simp; omega
  rw [List.set_append_right _ _ (by omega), h1, Nat.sub_self, show l.length - k = (l.length - (k + 1)) + 1 from by omega, List.replicate_succ, List.set_cons_zero, take_snoc hk, places_snoc, hp]
  simp

set_option maxRecDepth 100000 in
set_option maxHeartbeats 2000000 in
theorem sbuild_is (a : Option Addr) (n cap : Nat) (l : List (List UInt8)) (w : World) (hn : n = l.length) (hB : Rd st w a cap l) (hl : l.length ≤ 70000) (D : List (List UInt8)) (hD : T.bld l = D) (P : List Int) (hP : places D l = P) :
    Calls Tryz.prog 33 #[.slice a n cap] w fun e w' => ∃ v u, e = .returned (.tuple #[v, u]) ∧ IsRd st D v w' ∧ IsRd z64 P u w' ∧ Ex w w' := by
  subst hn
  have HB : Hid (Rd st w a cap l) := hB
  have HD : Hid (T.bld l = D) := hD
  have HP : Hid (places D l = P) := hP
  have hDl : D.length ≤ 70000 := by rw [← hD]; have := T.bld_len l; omega
  have hDr : Hid (T.Rise D) := (by rw [← hD]; exact T.rise_bld l : T.Rise D)
  have hcl := hB.1
  have hcm := hB.2.1
  unfold maxLen at hcm
  clear hB hD hP
  go_enter Tryz.func33, Tryz.ntmps33
  go_wp2_with fail
  refine (inOrder_is a _ cap l _ rfl HB.out hl).mono ?_
  rintro e w1 ⟨v1, S, rfl, hv1, hS1, hM1, hL1, hx1⟩
  obtain ⟨a1, c1, hv1', hb1⟩ := hv1
  subst hv1'
  have HB1 : Hid (Rd st w1 a1 c1 S) := hb1
  have HS1 : Hid (T.Srt S) := hS1
  have HM1 : Hid (T.bld S = D) := (by rw [bld_same hM1]; exact HD.out : T.bld S = D)
  have HX1 : Hid (Ex w w1) := hx1
  have hSl : S.length ≤ 70000 := by omega
  clear hb1 hS1 hM1 hL1 hx1
  go_wp2_with fail
  refine (unlike_is a1 _ c1 S _ rfl HB1.out hSl HS1.out D HM1.out).mono ?_
  rintro e w2 ⟨v2, rfl, hv2, hx2⟩
  obtain ⟨a4, c4, hv2', hb4⟩ := hv2
  subst hv2'
  have HB4 : Hid (Rd st w2 a4 c4 D) := hb4
  have HX2 : Hid (Ex w w2) := HX1.out.trans hx2
  clear hb4 hx2 HB1 HS1 HM1 HX1 hSl
  go_wp2_with (at_make; refine wpList_make_row (enc := z64) rfl _ _ 62 3 rfl 0 8 Tryz.underlying62 rfl Tryz.info3 _ _ l.length rfl rfl rfl rfl (by omega) (by omega) ?_; intro w3 hr3 hb3)
  obtain ⟨g, hg⟩ : ∃ g, g = w2.heap.size := ⟨_, rfl⟩
  rw [← hg]
  have h0R : Hid (RowAt z64 3 w3 g (places D (l.take 0) ++ List.replicate (l.length - 0) 0)) := (by rw [hg]; simpa [places] using hr3 : RowAt z64 3 w3 g (places D (l.take 0) ++ List.replicate (l.length - 0) 0))
  have h0X : Hid (Ex w w3) := HX2.out.trans hb3
  have h0D : Hid (Rd st w3 a4 c4 D) := HB4.out.below hb3
  have HGb : Hid (g = w2.heap.size) := hg
  have hgw : w.heap.size ≤ g := by have := HX2.out.size; omega
  have h0B : Hid (Below g w2 w3) := (by rw [hg]; exact hb3 : Below g w2 w3)
  clear hr3 hb3 hg
  go_loopw [16] (fun i wr => ∃ k : Nat, k ≤ l.length ∧ i = .int .i64 k ∧ Hid (RowAt z64 3 wr g (places D (l.take k) ++ List.replicate (l.length - k) 0)) ∧ Hid (Below g w2 wr)) (fun i _ => l.length - (intOf i).toNat)
  case atStart => exact ⟨0, by omega, rfl, h0R, h0B⟩
  case round =>
    obtain ⟨k, hk, rfl, HRo, HBl⟩ := hrel
    clear h0R h0X h0D h0B
    have hE2 : Ex w2 wr := by have := HBl.out; rw [HGb.out] at this; exact this
    have HE2 : Hid (Ex w2 wr) := hE2
    clear hE2
    by_cases hlt : k < l.length
    · obtain ⟨b, off, rfl, hc⟩ := ((HB.out.below HX2.out).below HE2.out).at hlt
      obtain ⟨x, hx⟩ : ∃ x, x = l[k] := ⟨_, rfl⟩
      rw [← hx] at hc
      have hc' : wr.cell? ⟨b, off + k, none⟩ = some (.string (str x)) := hc
      have hki : (k : Int) < (l.length : Int) := by omega
      have tk : decide ((k : Int) < (l.length : Int)) = true := by simp; omega
      obtain ⟨r, hr⟩ : ∃ r, T.idx x D = r := ⟨_, rfl⟩
      obtain ⟨p, hp⟩ : ∃ p, r.getD 0 = p := ⟨_, rfl⟩
      have hpl : T.place D x = p := by rw [T.place, hr, hp]
      have HI : Hid (T.idx x D = r) := hr
      have HPp : Hid (r.getD 0 = p) := hp
      have hll : (places D (l.take k) ++ List.replicate (l.length - k) (0 : Int)).length = l.length := by simp [places_len]; omega
      have hco := HRo.out.cell (k := k) (by rw [hll]; exact hlt)
      obtain ⟨old, hold⟩ : ∃ old, old = (places D (l.take k) ++ List.replicate (l.length - k) (0 : Int))[k]'(by rw [hll]; exact hlt) := ⟨_, rfl⟩
      rw [← hold] at hco
      have hfr : wr.frozen? ⟨g, k, none⟩ = false := HRo.out.frozen k
      have hst := set_next hlt (p : Int) (by rw [← hx, hpl] : ((T.place D l[k] : Nat) : Int) = (p : Int))
      have HRn : Hid (RowAt z64 3 (wr.setCell ⟨g, k, none⟩ (.int .i64 (p : Int))) g (places D (l.take (k + 1)) ++ List.replicate (l.length - (k + 1)) 0)) := (by rw [← hst]; exact HRo.out.set (p : Int) rfl : RowAt z64 3 (wr.setCell ⟨g, k, none⟩ (.int .i64 (p : Int))) g (places D (l.take (k + 1)) ++ List.replicate (l.length - (k + 1)) 0))
      have HBn : Hid (Below g w2 (wr.setCell ⟨g, k, none⟩ (.int .i64 (p : Int)))) := HBl.out.setCell (p := ⟨g, k, none⟩) (Nat.le_refl _) _
      clear hc hx hr hp hpl hll hold hst
      go_wp2_with fail
      refine (sfind_is a4 _ c4 D x _ rfl (HB4.out.below HE2.out) hDl hDr.out r HI.out).mono ?_
      rintro e wq ⟨rfl, hw⟩
      have hw' := hw.symm; clear hw; subst hw'
      rw [HPp.out]
      go_wp2
      go_roundw
      case rel => exact ⟨k + 1, by omega, by go_num, HRn, HBn⟩
      case measure => simp [intOf]; omega
    · obtain rfl : k = l.length := by omega
      have tk : decide ((l.length : Int) < (l.length : Int)) = false := by simp
      have hro := HRo.out
      rw [List.take_length, Nat.sub_self, List.replicate_zero, List.append_nil, HP.out] at hro
      have hPl : l.length = P.length := by rw [← HP.out, places_len]
      have HR6 : Hid (Rd z64 wr (some ⟨g, 0, none⟩) l.length P) := hro.rd hPl (by omega)
      have HPl : Hid (l.length = P.length) := hPl
      clear HRo hro hPl
      go_wp2
      go_ret2
      exact ⟨_, _, rfl, ⟨a4, c4, rfl, HB4.out.below HE2.out⟩, ⟨some ⟨g, 0, none⟩, l.length, by rw [← HPl.out]; rfl, HR6.out⟩, HX2.out.trans HE2.out⟩

set_option maxRecDepth 100000 in
set_option maxHeartbeats 1000000 in
theorem sencode_is (a : Option Addr) (n cap : Nat) (d : List (List UInt8)) (w : World) (hn : n = d.length) (hB : Rd st w a cap d) (hl : d.length ≤ 70000) (hd : ∀ x ∈ d, x.length ≤ maxLen) (r : List UInt8) (e0 : Nat) (hr : (if T.fits d = true then (T.enc d, 0) else ([], 12)) = (r, e0)) :
    Calls Tryz.prog 71 #[.slice a n cap] w fun e w' => ∃ v, e = .returned (.tuple #[v, .int .i64 e0]) ∧ Own w' w.heap.size v r ∧ Ex w w' := by
  subst hn
  obtain ⟨base, hbase⟩ : ∃ base, base = w.heap.size := ⟨_, rfl⟩
  have HBa : Hid (base = w.heap.size) := hbase
  rw [← hbase]
  have HB : Hid (Rd st w a cap d) := hB
  have HD : Hid (∀ x ∈ d, x.length ≤ maxLen) := hd
  have hcl := hB.1
  have hcm := hB.2.1
  unfold maxLen at hcm
  clear hB hd hbase
  cases hf : T.fits d with
  | false =>
    rw [hf, if_neg (by simp)] at hr
    simp only [Prod.mk.injEq] at hr
    obtain ⟨rfl, rfl⟩ := hr
    have HF : Hid (T.fits d = false) := hf
    clear hf
    go_enter Tryz.func71, Tryz.ntmps71
    go_wp2_with fail
    refine (sfits_is a _ cap d _ rfl HB.out hl HD.out false HF.out).mono ?_
    rintro e w1 ⟨rfl, hx1⟩
    go_wp2
    go_ret2
    exact ⟨_, rfl, ⟨by simp [cs], .inl ⟨rfl, rfl⟩⟩, hx1⟩
  | true =>
    rw [hf, if_pos rfl] at hr
    simp only [Prod.mk.injEq] at hr
    obtain ⟨hE, rfl⟩ := hr
    have hf3 := (T.fits_iff d).1 hf
    have hd16 := hf3.2.1
    have h40 : ∀ x ∈ d, x.length ≤ 40 := hf3.1
    have H40 : Hid (∀ x ∈ d, x.length ≤ 40) := h40
    have HE : Hid (T.enc d = r) := hE
    have HF : Hid (T.fits d = true) := hf
    clear hf hf3 h40 hE
    go_enter Tryz.func71, Tryz.ntmps71
    go_wp2_with fail
    refine (sfits_is a _ cap d _ rfl HB.out hl HD.out true HF.out).mono ?_
    rintro e w1 ⟨rfl, hx1⟩
    go_wp2_with fail
    refine (put_is none 0 0 [] (M.digs d.length) _ d.length _ (by first | rfl | omega) (by simp) (Byt.nil _) rfl (by omega) (by simp)).mono ?_
    rintro e w2 ⟨v2, rfl, ho2, hx2⟩
    have HO2 : Hid (Own w2 base v2 (M.digs d.length ++ T.texts (d.take 0))) := (by
      have h := ho2.mono (show base ≤ w1.heap.size by rw [HBa.out]; exact hx1.size)
      simpa [T.texts] using h : Own w2 base v2 (M.digs d.length ++ T.texts (d.take 0)))
    have HX2 : Hid (Ex w w2) := hx1.trans hx2
    clear ho2 hx1 hx2
    go_wp2_with fail
    go_loopw [4, 16] (fun v i wr => ∃ k : Nat, k ≤ d.length ∧ i = .int .i64 k ∧ Hid (Own wr base v (M.digs d.length ++ T.texts (d.take k))) ∧ Hid (Ex w wr)) (fun _ i _ => d.length - (intOf i).toNat)
    case atStart => exact ⟨0, by omega, rfl, HO2, HX2⟩
    case round =>
      obtain ⟨k, hk, rfl, HO, HEx⟩ := hrel
      clear HO2 HX2
      by_cases hlt : k < d.length
      · obtain ⟨b, off, rfl, hc⟩ := (HB.out.below HEx.out).at hlt
        obtain ⟨x, hx⟩ : ∃ x, x = d[k] := ⟨_, rfl⟩
        rw [← hx] at hc
        have hc' : wr.cell? ⟨b, off + k, none⟩ = some (.string (str x)) := hc
        have hx40 : x.length ≤ 40 := by rw [hx]; exact H40.out _ (List.getElem_mem hlt)
        have hki : (k : Int) < (d.length : Int) := by omega
        have tk : decide ((k : Int) < (d.length : Int)) = true := by simp; omega
        obtain ⟨E, hE⟩ : ∃ E, E = M.digs d.length ++ T.texts (d.take k) := ⟨_, rfl⟩
        obtain ⟨E2, hE2⟩ : ∃ E2, E2 = M.digs d.length ++ T.texts (d.take (k + 1)) := ⟨_, rfl⟩
        have hEE : E ++ M.digs x.length ++ x = E2 := by rw [hE, hE2, take_snoc hlt, T.texts_snoc, ← hx, T.ptext]; simp
        have hEl : E.length ≤ 2000 := by
          have h1 := M.digs_len d.length
          have h2 := T.texts_len (d.take k) (fun s hs => by have := H40.out s (List.mem_of_mem_take hs); omega)
          have h3 : (d.take k).length ≤ 16 := by simp; omega
          rw [hE]; simp only [List.length_append]; omega
        have ho := HO.out
        rw [← hE] at ho
        obtain ⟨a4, c4, hv4, hb4⟩ := ho.byt
        subst hv4
        have HB4 : Hid (Byt wr a4 c4 E) := hb4
        have HEE : Hid (E ++ M.digs x.length ++ x = E2) := hEE
        have HE2 : Hid (E2 = M.digs d.length ++ T.texts (d.take (k + 1))) := hE2
        have HSz : Hid (base ≤ wr.heap.size) := (by rw [HBa.out]; exact HEx.out.size : base ≤ wr.heap.size)
        clear hc hx hE hE2 hEE ho hb4 HO
        go_wp2_with fail
        refine (putText_any a4 c4 E x E2 _ HB4.out HEE.out (by omega)).mono ?_
        rintro e w5 ⟨v5, rfl, ho5, hx5⟩
        have HO5 : Hid (Own w5 base v5 (M.digs d.length ++ T.texts (d.take (k + 1)))) := (by rw [← HE2.out]; exact ho5.mono HSz.out : Own w5 base v5 (M.digs d.length ++ T.texts (d.take (k + 1))))
        have HX5 : Hid (Ex w w5) := HEx.out.trans hx5
        clear ho5 hx5
        go_wp2
        go_roundw
        case rel => exact ⟨k + 1, by omega, by go_num, HO5, HX5⟩
        case measure => simp [intOf]; omega
      · obtain rfl : k = d.length := by omega
        have ho := HO.out
        rw [List.take_length, show M.digs d.length ++ T.texts d = r from HE.out] at ho
        have HF2 : Hid (Own wr base u4 r) := ho
        clear HO ho
        go_wp2
        go_ret2
        exact ⟨_, rfl, HF2.out, HEx.out⟩
end Go.Proofs.YtnmonoafjijfhaaGreat
namespace Go.Proofs.YtnmonoafjijfhaaGreat
open Go.RowKit
set_option linter.unusedVariables false

set_option maxRecDepth 100000 in
set_option maxHeartbeats 1000000 in
theorem sdecode_main (a : Option Addr) (cap : Nat) (b : List UInt8) (p : Int) (n K : Nat) (w : World) (hB : Byt w a cap b) (hg : M.get b p = (n, K, 0)) (h16 : n ≤ 16) (R1 : List (List UInt8)) (R2 R3 : Nat) (hR : T.rd b n K [] = (R1, R2, R3)) (r : List (List UInt8)) (k0 e0 : Nat)
    (hr : (if R3 ≠ 0 then ([], 0, R3) else if T.adj R1 = true then (R1, R2, 0) else ([], 0, 12)) = (r, k0, e0)) :
    Calls Tryz.prog 112 #[.slice a b.length cap, .int .i64 p] w fun e w' => ∃ v, e = .returned (.tuple #[v, .int .i64 k0, .int .i64 e0]) ∧ IsRd st r v w' ∧ Ex w w' := by
  obtain ⟨base, hbase⟩ : ∃ base, base = w.heap.size := ⟨_, rfl⟩
  have HBa : Hid (base = w.heap.size) := hbase
  have HB : Hid (Byt w a cap b) := hB
  have HG : Hid (M.get b p = (n, K, 0)) := hg
  have hKb : K ≤ b.length := by have := M.get_all b p; rw [hg] at this; exact this.2.1
  have HR : Hid (T.rd b n K [] = (R1, R2, R3)) := hR
  have HRr : Hid ((if R3 ≠ 0 then ([], 0, R3) else if T.adj R1 = true then (R1, R2, 0) else ([], 0, 12)) = (r, k0, e0)) := hr
  have hO0 : Hid (OwnR 9 st w base (.slice none 0 0) []) := (⟨by simp, .inl ⟨rfl, rfl⟩⟩ : OwnR 9 st w base (.slice none 0 0) [])
  have hB0 : Hid (Below base w w) := Below.refl _ _
  have t16 : decide (16 < n) = false := by simp; omega
  have t16' : decide ((16 : Int) < (n : Int)) = false := by simp; omega
  have hcl := hB.1
  have hcm := hB.2.1
  unfold maxLen at hcm
  clear hB hg hR hr hbase
  go_enter Tryz.func112, Tryz.ntmps112
  go_wp2_with fail
  refine (get_is a _ cap b p _ n K 0 HG.out HB.out rfl).mono ?_
  rintro e wq ⟨rfl, hw⟩
  have hw' := hw.symm; clear hw; subst hw'
  go_wp2_with fail
  go_loopw [8, 10, 26] (fun kv v iv wr => ∃ (i m kk : Nat) (o : List (List UInt8)), i + m ≤ n ∧ n ≤ i + m ∧ kk ≤ b.length ∧ o.length ≤ i ∧ iv = .int .i64 (i : Int) ∧ kv = .int .i64 kk ∧ Hid (T.rd b m kk o = (R1, R2, R3)) ∧ Hid (OwnR 9 st wr base v o) ∧ Hid (Below base w wr)) (fun _ _ iv _ => n - (intOf iv).toNat)
  case atStart => exact ⟨0, n, K, [], by omega, by omega, hKb, by simp, rfl, rfl, HR, hO0, hB0⟩
  case round =>
    obtain ⟨i, m, kk, o, hm, hmn, hkk, hol, rfl, rfl, HD, HO, HBl⟩ := hrel
    clear hO0 hB0 HR
    have hEx : Ex w wr := by have := HBl.out; rw [HBa.out] at this; exact this
    have hsz : base ≤ wr.heap.size := by rw [HBa.out]; exact hEx.size
    have HEx : Hid (Ex w wr) := hEx
    clear hEx
    by_cases hm0 : m = 0
    · subst hm0
      have ti : decide ((i : Int) < (n : Int)) = false := by simp; omega
      have hD := HD.out
      simp only [T.rd, Prod.mk.injEq] at hD
      obtain ⟨rfl, rfl, rfl⟩ := hD
      have hRr := HRr.out
      rw [if_neg (by simp)] at hRr
      obtain ⟨a10, c10, hv10, hb10⟩ := HO.out.rd
      subst hv10
      have HB10 : Hid (Rd st wr a10 c10 o) := hb10
      clear HD HO hb10 HRr
      cases hadj : T.adj o with
      | true =>
        rw [hadj, if_pos rfl] at hRr
        simp only [Prod.mk.injEq] at hRr
        obtain ⟨rfl, rfl, rfl⟩ := hRr
        have HA : Hid (T.adj o = true) := hadj
        clear hadj
        go_wp2_with fail
        refine (rises_is a10 _ c10 o _ rfl HB10.out true HA.out).mono ?_
        rintro e w1 ⟨rfl, hx1⟩
        go_wp2
        go_ret3
        exact ⟨_, rfl, ⟨a10, c10, rfl, HB10.out.below hx1⟩, HEx.out.trans hx1⟩
      | false =>
        rw [hadj, if_neg (by simp)] at hRr
        simp only [Prod.mk.injEq] at hRr
        obtain ⟨rfl, rfl, rfl⟩ := hRr
        have HA : Hid (T.adj o = false) := hadj
        clear hadj
        go_wp2_with fail
        refine (rises_is a10 _ c10 o _ rfl HB10.out false HA.out).mono ?_
        rintro e w1 ⟨rfl, hx1⟩
        go_wp2
        go_ret3
        exact ⟨_, rfl, IsRd.nil _, HEx.out.trans hx1⟩
    · obtain ⟨m1, hm1⟩ : ∃ m1, m = m1 + 1 := ⟨m - 1, by omega⟩
      have ti : decide ((i : Int) < (n : Int)) = true := by simp; omega
      obtain ⟨⟨s, E, e1⟩, hge⟩ : ∃ x, M.getText b (kk : Int) 40 = x := ⟨_, rfl⟩
      have hall := T.getText_all b (kk : Int) 40
      rw [hge] at hall
      have hs40 : s.length ≤ 40 := by have := hall.1; simpa using this
      have hEb : E ≤ b.length := hall.2.1
      have he12 : e1 ≤ 12 := hall.2.2.1
      have HGe : Hid (M.getText b (kk : Int) 40 = (s, E, e1)) := hge
      have hD := HD.out
      rw [hm1, T.rd, hge] at hD
      have hmi : (m : Int) - 1 = (m1 : Int) := by omega
      have hmp : 1 ≤ m := by omega
      have hm2 : m1 + 1 ≤ m := by omega
      have hm3 : m ≤ m1 + 1 := by omega
      clear hge hall HD hm1 hm0
      by_cases he : e1 = 0
      · subst he
        simp only [ne_eq, not_true_eq_false, if_false] at hD
        have HN : Hid (T.rd b m1 E (o ++ [s]) = (R1, R2, R3)) := hD
        clear hD
        go_wp2_with fail
        refine (getText_any a _ cap b (kk : Int) 40 _ (HB.out.below HEx.out) rfl (by omega) (by omega) s E 0 HGe.out).mono ?_
        rintro e wq ⟨rfl, hw⟩
        have hw' := hw.symm; clear hw; subst hw'
        have hov := HO.out
        go_wp2_with (at_builtin; refine wpList_append_rd (e := 9) (enc := st) rfl (.tmp 38) (.tmp 40) 35 rfl [] 16 Tryz.underlying35 Tryz.info9 rfl (fun _ => rfl) base _ o rfl (hov.alloc _) _ _ _ [s] rfl rfl (Rd.laid wr 9 [s] (by simp)) (by simp [maxLen]; omega) (by simp; omega) (by simp; omega) ?_; intro v9 w9 ho9 hg9; have X9 : Below base w w9 := step_belowR (Below.alloc HBl.out hsz _) (by simp; omega) (hov.alloc _) hg9; clear hg9)
        have HO9 : Hid (OwnR 9 st w9 base v9 (o ++ [s])) := ho9
        have HX9 : Hid (Below base w w9) := X9
        have hon : (o ++ [s]).length ≤ i + 1 := by simp; omega
        clear ho9 X9 hov
        go_wp2
        go_roundw
        case rel => exact ⟨i + 1, m1, E, o ++ [s], by omega, by omega, hEb, hon, by go_num, rfl, HN, HO9, HX9⟩
        case measure => simp [intOf]; omega
      · rw [if_pos he] at hD
        simp only [Prod.mk.injEq] at hD
        obtain ⟨rfl, rfl, rfl⟩ := hD
        have hRr := HRr.out
        rw [if_pos he] at hRr
        simp only [Prod.mk.injEq] at hRr
        obtain ⟨rfl, rfl, rfl⟩ := hRr
        have tne : ((e1 : Int) != 0) = true := by simp; omega
        clear HRr
        go_wp2_with fail
        refine (getText_any a _ cap b (kk : Int) 40 _ (HB.out.below HEx.out) rfl (by omega) (by omega) s E e1 HGe.out).mono ?_
        rintro e wq ⟨rfl, hw⟩
        have hw' := hw.symm; clear hw; subst hw'
        go_wp2
        go_ret3
        exact ⟨_, rfl, IsRd.nil _, HEx.out⟩

set_option maxRecDepth 100000 in
theorem sdecode_is (a : Option Addr) (len cap : Nat) (b : List UInt8) (p : Int) (w : World) (hlen : len = b.length) (hB : Byt w a cap b) (r : List (List UInt8)) (k0 e0 : Nat) (hr : T.dec b p = (r, k0, e0)) :
    Calls Tryz.prog 112 #[.slice a len cap, .int .i64 p] w fun e w' => ∃ v, e = .returned (.tuple #[v, .int .i64 k0, .int .i64 e0]) ∧ IsRd st r v w' ∧ Ex w w' := by
  subst hlen
  obtain ⟨⟨n, K, e1⟩, hg⟩ : ∃ x, M.get b p = x := ⟨_, rfl⟩
  have hall := M.get_all b p
  rw [hg] at hall
  have hn64 : n < 18446744073709551616 := hall.1
  have he12 : e1 ≤ 12 := hall.2.2
  unfold T.dec at hr
  rw [hg] at hr
  simp only at hr
  clear hall
  have hcl := hB.1
  have hcm := hB.2.1
  unfold maxLen at hcm
  by_cases he : e1 = 0
  · subst he
    rw [if_neg (by simp)] at hr
    by_cases h16 : 16 < n
    · rw [if_pos h16] at hr
      simp only [Prod.mk.injEq] at hr
      obtain ⟨rfl, rfl, rfl⟩ := hr
      have HB : Hid (Byt w a cap b) := hB
      have HG : Hid (M.get b p = (n, K, 0)) := hg
      have t16 : decide (16 < n) = true := by simp; omega
      have t16' : decide ((16 : Int) < (n : Int)) = true := by simp; omega
      clear hB hg
      go_enter Tryz.func112, Tryz.ntmps112
      go_wp2_with fail
      refine (get_is a _ cap b p _ n K 0 HG.out HB.out rfl).mono ?_
      rintro e wq ⟨rfl, hw⟩
      have hw' := hw.symm; clear hw; subst hw'
      go_wp2
      go_ret3
      exact ⟨_, rfl, IsRd.nil _, Ex.refl _⟩
    · rw [if_neg h16] at hr
      obtain ⟨⟨R1, R2, R3⟩, hR⟩ : ∃ x, T.rd b n K [] = x := ⟨_, rfl⟩
      rw [hR] at hr
      exact sdecode_main a cap b p n K w hB hg (by omega) R1 R2 R3 hR r k0 e0 hr
  · rw [if_pos he] at hr
    simp only [Prod.mk.injEq] at hr
    obtain ⟨rfl, rfl, rfl⟩ := hr
    have HB : Hid (Byt w a cap b) := hB
    have HG : Hid (M.get b p = (n, K, e1)) := hg
    have tne : ((e1 : Int) != 0) = true := by simp; omega
    clear hB hg
    go_enter Tryz.func112, Tryz.ntmps112
    go_wp2_with fail
    refine (get_is a _ cap b p _ n K e1 HG.out HB.out rfl).mono ?_
    rintro e wq ⟨rfl, hw⟩
    have hw' := hw.symm; clear hw; subst hw'
    go_wp2
    go_ret3
    exact ⟨_, rfl, IsRd.nil _, Ex.refl _⟩
end Go.Proofs.YtnmonoafjijfhaaGreat
