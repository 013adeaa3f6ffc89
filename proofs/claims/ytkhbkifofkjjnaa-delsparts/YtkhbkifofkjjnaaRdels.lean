/-
  The document's own Encode and Decode of marks (layer 11) over the program.
-/
import Derived.Test.YtkhbkifofkjjnaaRface
import Derived.Test.YtkhbkifofkjjnaaDels
import Derived.Test.YtkhbkifofkjjnaaTouch
namespace Go.Proofs.Ytkhbkifofkjjnaa
open Go.RowKit
set_option linter.unusedVariables false
theorem enc_len6 {w : Nat} (hw : w ≤ 32) : ∀ (m : Nat) (l : List Nat), l.length ≤ m → (R.enc w l).length ≤ 6 * l.length + 50
  | 0, l, hm => by
    obtain rfl : l = [] := List.length_eq_zero_iff.1 (by omega)
    simp [R.enc_nil]
  | m + 1, l, hm => by
    by_cases hl : l = []
    · subst hl; simp [R.enc_nil]
    · have hp : 0 < l.length := List.length_pos_iff.2 hl
      rw [R.enc_eq w hl]
      split
      · rename_i h8
        have hr := R.runLen_le l
        have ih := enc_len6 hw m (l.drop (R.runLen l)) (by simp; omega)
        have hd := M.digs_len (2 * R.runLen l)
        simp only [List.length_append, List.length_drop, R.few_len] at ih ⊢
        omega
      · have hg := R.groups_pos hl
        have hg2 := R.groups_le l
        have ih := enc_len6 hw m (l.drop (8 * R.groups l)) (by simp; omega)
        have hd := M.digs_len (2 * R.groups l + 1)
        have hpl : (R.pad (8 * R.groups l) (l.take (8 * R.groups l))).length = 8 * R.groups l := R.pad_len (by simp; omega)
        have hpk : (B.pack w (R.pad (8 * R.groups l) (l.take (8 * R.groups l)))).length ≤ 32 * R.groups l := by
          rw [B.pack_len, hpl]
          unfold B.size
          have h1 : 8 * R.groups l * w ≤ 8 * R.groups l * 32 := Nat.mul_le_mul_left _ hw
          omega
        by_cases hend : l.length ≤ 8 * R.groups l
        · have : l.drop (8 * R.groups l) = [] := List.drop_of_length_le hend
          rw [this, R.enc_nil]
          simp only [List.length_append, List.length_nil]
          omega
        · simp only [List.length_append, List.length_drop] at ih ⊢
          omega
theorem Dl.enc_len (ws : List Bool) : (Dl.enc ws).length ≤ 6 * ws.length + 60 := by
  have h1 := M.digs_len ws.length
  have h2 := enc_len6 (w := 1) (by omega) _ (Dl.xs ws) (Nat.le_refl _)
  rw [Dl.xs_len] at h2
  rw [Dl.enc, List.length_append]
  omega
theorem R.enc_len1 (ws : List Bool) : (R.enc 1 (Dl.xs ws)).length ≤ 50 * ws.length := by
  have h := enc_len (w := 1) (by omega) _ (Dl.xs ws) (Nat.le_refl _)
  rw [Dl.xs_len] at h
  exact h
set_option maxRecDepth 100000 in
set_option maxHeartbeats 1000000 in
theorem rdenc_is (a : Option Addr) (n cap : Nat) (ws : List Bool) (w : World) (hn : n = ws.length) (hB : Rd bl w a cap ws) (hl : ws.length ≤ 1048576) (r : List UInt8) (hr : Dl.enc ws = r) :
    Calls Try.prog 20 #[.slice a n cap] w fun e w' => ∃ v, e = .returned v ∧ Own w' w.heap.size v r ∧ Ex w w' := by
  subst hn
  have HB : Hid (Rd bl w a cap ws) := hB
  have HR : Hid (Dl.enc ws = r) := hr
  have hcl := hB.1
  have hcm := hB.2.1
  unfold maxLen at hcm
  have h0 : Hid (OwnR 53 n64 w w.heap.size (.slice none 0 0) (Dl.xs (ws.take 0))) := (⟨by simp [Dl.xs], .inl ⟨rfl, rfl⟩⟩ : OwnR 53 n64 w w.heap.size (.slice none 0 0) (Dl.xs (ws.take 0)))
  clear hB hr
  go_enter Try.func20, Try.ntmps20
  go_wp2_with fail
  go_loopw [3, 4] (fun v i wr => ∃ k : Nat, k ≤ ws.length ∧ i = .int .i64 k ∧ Hid (OwnR 53 n64 wr w.heap.size v (Dl.xs (ws.take k))) ∧ Hid (Ex w wr)) (fun _ i _ => ws.length - (intOf i).toNat)
  case atStart => exact ⟨0, by omega, rfl, h0, Ex.refl _⟩
  case round =>
    obtain ⟨k, hk, rfl, HO, HEx⟩ := hrel
    clear h0
    have hsz : w.heap.size ≤ wr.heap.size := HEx.out.size
    by_cases hlt : k < ws.length
    · obtain ⟨b, off, rfl, hc⟩ := (HB.out.below HEx.out).at hlt
      obtain ⟨x, hx⟩ : ∃ x, x = ws[k] := ⟨_, rfl⟩
      rw [← hx] at hc
      have hc' : wr.cell? ⟨b, off + k, none⟩ = some (.bool x) := hc
      have hki : (k : Int) < (ws.length : Int) := by omega
      have tk : decide ((k : Int) < (ws.length : Int)) = true := by simp; omega
      have HN : Hid (Dl.xs (ws.take (k + 1)) = Dl.xs (ws.take k) ++ [Dl.bw x]) := (by rw [List.take_succ_eq_append_getElem hlt, Dl.xs_snoc, hx] : Dl.xs (ws.take (k + 1)) = Dl.xs (ws.take k) ++ [Dl.bw x])
      have hxl : (Dl.xs (ws.take k)).length ≤ 1048576 := by rw [Dl.xs_len]; simp; omega
      have hov := HO.out
      clear hc hx
      cases x with
      | true =>
        go_wp2_with (at_builtin; refine wpList_append_rd (e := 53) (enc := n64) rfl (.tmp 18) (.tmp 20) 50 rfl 0 8 Try.underlying50 Try.info53 rfl (fun _ => rfl) w.heap.size _ (Dl.xs (ws.take k)) rfl (hov.alloc _) _ _ _ [1] rfl rfl (Rd.laid wr 53 [1] (by simp)) (by simp [maxLen]; omega) (by simp; omega) (by simp; omega) ?_; intro v9 w9 ho9 hg9; have X9 : Ex w w9 := step_belowR (Below.alloc HEx.out hsz _) (by simp; omega) (hov.alloc _) hg9; clear hg9)
        have HO9 : Hid (OwnR 53 n64 w9 w.heap.size v9 (Dl.xs (ws.take (k + 1)))) := (by rw [HN.out]; exact ho9 : OwnR 53 n64 w9 w.heap.size v9 (Dl.xs (ws.take (k + 1))))
        have HX9 : Hid (Ex w w9) := X9
        clear ho9 X9 hov
        go_wp2
        go_roundw
        case rel => exact ⟨k + 1, by omega, by go_num, HO9, HX9⟩
        case measure => simp [intOf]; omega
      | false =>
        go_wp2_with (at_builtin; refine wpList_append_rd (e := 53) (enc := n64) rfl (.tmp 18) (.tmp 20) 50 rfl 0 8 Try.underlying50 Try.info53 rfl (fun _ => rfl) w.heap.size _ (Dl.xs (ws.take k)) rfl (hov.alloc _) _ _ _ [0] rfl rfl (Rd.laid wr 53 [0] (by simp)) (by simp [maxLen]; omega) (by simp; omega) (by simp; omega) ?_; intro v9 w9 ho9 hg9; have X9 : Ex w w9 := step_belowR (Below.alloc HEx.out hsz _) (by simp; omega) (hov.alloc _) hg9; clear hg9)
        have HO9 : Hid (OwnR 53 n64 w9 w.heap.size v9 (Dl.xs (ws.take (k + 1)))) := (by rw [HN.out]; exact ho9 : OwnR 53 n64 w9 w.heap.size v9 (Dl.xs (ws.take (k + 1))))
        have HX9 : Hid (Ex w w9) := X9
        clear ho9 X9 hov
        go_wp2
        go_roundw
        case rel => exact ⟨k + 1, by omega, by go_num, HO9, HX9⟩
        case measure => simp [intOf]; omega
    · obtain rfl : k = ws.length := by omega
      have tk : decide ((ws.length : Int) < (ws.length : Int)) = false := by simp
      have ho := HO.out
      rw [List.take_length] at ho
      obtain ⟨a4, c4, hv4, hb4⟩ := ho.rd
      subst hv4
      obtain ⟨XL, hXL⟩ : ∃ XL, Dl.xs ws = XL := ⟨_, rfl⟩
      have hXl : XL.length = ws.length := by rw [← hXL, Dl.xs_len]
      have HXl : Hid (XL.length = ws.length) := hXl
      obtain ⟨E, hE⟩ : ∃ E, R.enc 1 XL = E := ⟨_, rfl⟩
      have hEl : E.length ≤ 50 * ws.length := by rw [← hE, ← hXL]; exact R.enc_len1 ws
      have HE : Hid (R.encE XL 1 = (E, 0)) := (by rw [← hXL, Dl.encE_xs, hXL, hE] : R.encE XL 1 = (E, 0))
      have HL64 : Hid (∀ x ∈ XL, x < 18446744073709551616) := (fun x hx => by rw [← hXL] at hx; have := Dl.xs_le x hx; omega : ∀ x ∈ XL, x < 18446744073709551616)
      have HR2 : Hid (M.digs ws.length ++ E = r) := (by rw [← HR.out, Dl.enc, hXL, hE] : M.digs ws.length ++ E = r)
      rw [hXL] at hb4
      have HB4 : Hid (Rd n64 wr a4 c4 XL) := hb4
      rw [hXL]
      clear HO ho hb4 hXL hE hXl
      go_wp2_with fail
      refine (renc_is a4 _ c4 XL 1 _ rfl HB4.out HL64.out (by have := HXl.out; omega) E 0 HE.out).mono ?_
      rintro e w1 ⟨v1, rfl, ⟨a6, c6, hv6, hb6⟩, hx1⟩
      subst hv6
      have HB6 : Hid (Byt w1 a6 c6 E) := hb6
      have HX1 : Hid (Ex w w1) := HEx.out.trans hx1
      clear hb6 hx1
      go_wp2_with fail
      refine (rput_is none 0 0 [] (M.digs ws.length) _ ws.length _ (by first | rfl | omega) (by simp) (Byt.nil _) rfl (by omega) (by simp)).mono ?_
      rintro e w2 ⟨v2, rfl, ho2, hx2⟩
      have hd := M.digs_len ws.length
      have HX2 : Hid (Ex w w2) := HX1.out.trans hx2
      have hov : Own w2 w.heap.size v2 (M.digs ws.length) := ho2.mono HX1.out.size
      have hb6 := HB6.out.below hx2
      have hsz2 : w.heap.size ≤ w2.heap.size := HX2.out.size
      clear ho2
      go_wp2_with (at_builtin; refine wpList_append_byt rfl (.tmp 30) (.tmp 31) rfl w.heap.size _ (M.digs ws.length) rfl hov a6 _ c6 E rfl rfl hb6 (by omega) hsz2 ?_; intro v3 w3 ho3 hg3; have X3 : Ex w w3 := step_below0 HX2.out hsz2 hov hg3; clear hg3; rw [HR2.out] at ho3)
      go_ret
      exact ⟨_, rfl, ho3, X3⟩
set_option maxRecDepth 100000 in
set_option maxHeartbeats 1000000 in
theorem rddec_is (a : Option Addr) (len cap : Nat) (b : List UInt8) (p : Int) (w : World) (hlen : len = b.length) (hB : Byt w a cap b) (hbl : b.length ≤ 140737488355328) (ws : List Bool) (k0 e0 : Nat) (hr : Dl.dec b p = (ws, k0, e0)) :
    Calls Try.prog 21 #[.slice a len cap, .int .i64 p] w fun e w' => ∃ v, e = .returned (.tuple #[v, .int .i64 k0, .int .i64 e0]) ∧ IsRd bl ws v w' ∧ Ex w w' := by
  subst hlen
  have hcl := hB.1
  have hcm := hB.2.1
  unfold maxLen at hcm
  obtain ⟨⟨n, K, e1⟩, hg⟩ : ∃ x, M.get b p = x := ⟨_, rfl⟩
  have hall := M.get_all b p
  rw [hg] at hall
  have hn64 : n < 18446744073709551616 := hall.1
  have hKb : K ≤ b.length := hall.2.1
  have he12 : e1 ≤ 12 := hall.2.2
  unfold Dl.dec at hr
  rw [hg] at hr
  simp only at hr
  have HB : Hid (Byt w a cap b) := hB
  have HG : Hid (M.get b p = (n, K, e1)) := hg
  clear hall hg hB
  by_cases he : e1 = 0
  · subst he
    rw [if_neg (by simp)] at hr
    by_cases hbig : 1048576 < n
    · rw [if_pos hbig] at hr
      simp only [Prod.mk.injEq] at hr
      obtain ⟨rfl, rfl, rfl⟩ := hr
      have t1 : decide (1048576 < n) = true := by simp; omega
      have t2 : decide ((1048576 : Int) < (n : Int)) = true := by simp; omega
      go_enter Try.func21, Try.ntmps21
      go_wp2_with fail
      refine (rget_is a _ cap b p _ n K 0 HG.out HB.out rfl).mono ?_
      rintro e wq ⟨rfl, hw⟩
      have hw' := hw.symm; clear hw; subst hw'
      go_wp2
      go_ret3
      exact ⟨_, rfl, IsRd.nil _, Ex.refl _⟩
    · rw [if_neg hbig] at hr
      have t1 : decide (1048576 < n) = false := by simp; omega
      have t2 : decide ((1048576 : Int) < (n : Int)) = false := by simp; omega
      obtain ⟨⟨x, k2, e2⟩, hd⟩ : ∃ z, R.dec b (K : Int) (n : Int) 1 = z := ⟨_, rfl⟩
      rw [hd] at hr
      simp only at hr
      have HD : Hid (R.dec b (K : Int) (n : Int) 1 = (x, k2, e2)) := hd
      by_cases he2 : e2 = 0
      · subst he2
        have hok := R.dec_ok hd
        rw [if_neg (by simp)] at hr
        simp only [Prod.mk.injEq] at hr
        obtain ⟨hws, rfl, rfl⟩ := hr
        have hxl : x.length ≤ 1048576 := by have := hok.2.2.2.2.2.2.1; omega
        have HW : Hid (x.map (fun n => n == 1) = ws) := hws
        clear hd hok hws
        go_enter Try.func21, Try.ntmps21
        go_wp2_with fail
        refine (rget_is a _ cap b p _ n K 0 HG.out HB.out rfl).mono ?_
        rintro e wq ⟨rfl, hw⟩
        have hw' := hw.symm; clear hw; subst hw'
        go_wp2_with fail
        refine (rdec_is a _ cap b (K : Int) (n : Int) 1 _ rfl HB.out hbl x k2 0 HD.out).mono ?_
        rintro e w1 ⟨v1, rfl, ⟨a1, c1, hv1, hb1⟩, hx1⟩
        subst hv1
        have hc1 := hb1.1
        have hc2 := hb1.2.1
        unfold maxLen at hc2
        have HB1 : Hid (Rd n64 w1 a1 c1 x) := hb1
        have HX1 : Hid (Ex w w1) := hx1
        have h0 : Hid (OwnR 4 bl w1 w1.heap.size (.slice none 0 0) ((x.take 0).map (fun n => n == 1))) := (⟨by simp, .inl ⟨rfl, rfl⟩⟩ : OwnR 4 bl w1 w1.heap.size (.slice none 0 0) ((x.take 0).map (fun n => n == 1)))
        clear hb1 hx1
        go_wp2_with fail
        go_loopw [11, 12] (fun v i wr => ∃ k : Nat, k ≤ x.length ∧ i = .int .i64 k ∧ Hid (OwnR 4 bl wr w1.heap.size v ((x.take k).map (fun n => n == 1))) ∧ Hid (Ex w1 wr)) (fun _ i _ => x.length - (intOf i).toNat)
        case atStart => exact ⟨0, by omega, rfl, h0, Ex.refl _⟩
        case round =>
          obtain ⟨k, hk, rfl, HO, HEx⟩ := hrel
          clear h0
          have hsz : w1.heap.size ≤ wr.heap.size := HEx.out.size
          by_cases hlt : k < x.length
          · obtain ⟨bb, off, rfl, hc⟩ := (HB1.out.below HEx.out).at hlt
            obtain ⟨y, hy⟩ : ∃ y, y = x[k] := ⟨_, rfl⟩
            rw [← hy] at hc
            have hc' : wr.cell? ⟨bb, off + k, none⟩ = some (.int .u64 (y : Int)) := hc
            have hki : (k : Int) < (x.length : Int) := by omega
            have tk : decide ((k : Int) < (x.length : Int)) = true := by simp; omega
            obtain ⟨c, hcc⟩ : ∃ c, (y == 1) = c := ⟨_, rfl⟩
            have hci : ((y : Int) == 1) = c := by rw [← hcc]; rw [Bool.eq_iff_iff]; simp; omega
            have HN : Hid ((x.take (k + 1)).map (fun n => n == 1) = (x.take k).map (fun n => n == 1) ++ [c]) := (by rw [List.take_succ_eq_append_getElem hlt, List.map_append, ← hy, ← hcc]; rfl : (x.take (k + 1)).map (fun n => n == 1) = (x.take k).map (fun n => n == 1) ++ [c])
            have hol : ((x.take k).map (fun n => n == 1)).length ≤ 1048576 := by simp; omega
            have hov := HO.out
            clear hc hy
            go_wp2_with (at_builtin; refine wpList_append_rd (e := 4) (enc := bl) rfl (.tmp 43) (.tmp 49) 37 rfl false 1 Try.underlying37 Try.info4 rfl (fun _ => rfl) w1.heap.size _ ((x.take k).map (fun n => n == 1)) rfl (hov.alloc _) _ _ _ [c] rfl rfl (Rd.laid wr 4 [c] (by simp)) (by simp [maxLen]; omega) (by simp; omega) (by simp; omega) ?_; intro v9 w9 ho9 hg9; have X9 : Ex w1 w9 := step_belowR (Below.alloc HEx.out hsz _) (by simp; omega) (hov.alloc _) hg9; clear hg9)
            have HO9 : Hid (OwnR 4 bl w9 w1.heap.size v9 ((x.take (k + 1)).map (fun n => n == 1))) := (by rw [HN.out]; exact ho9 : OwnR 4 bl w9 w1.heap.size v9 ((x.take (k + 1)).map (fun n => n == 1)))
            have HX9 : Hid (Ex w1 w9) := X9
            clear ho9 X9 hov
            go_wp2
            go_roundw
            case rel => exact ⟨k + 1, by omega, by go_num, HO9, HX9⟩
            case measure => simp [intOf]; omega
          · have tk : decide ((k : Int) < (x.length : Int)) = false := by simp; omega
            have ho := HO.out
            rw [List.take_of_length_le (by omega), HW.out] at ho
            obtain ⟨a4, c4, hv4, hb4⟩ := ho.rd
            subst hv4
            have HB4 : Hid (Rd bl wr a4 c4 ws) := hb4
            clear HO ho hb4
            go_wp2
            go_ret3
            exact ⟨_, rfl, ⟨a4, c4, rfl, HB4.out⟩, HX1.out.trans HEx.out⟩
      · rw [if_pos he2] at hr
        simp only [Prod.mk.injEq] at hr
        obtain ⟨rfl, rfl, rfl⟩ := hr
        have tne : ((e2 : Int) != 0) = true := by simp; omega
        clear hd
        go_enter Try.func21, Try.ntmps21
        go_wp2_with fail
        refine (rget_is a _ cap b p _ n K 0 HG.out HB.out rfl).mono ?_
        rintro e wq ⟨rfl, hw⟩
        have hw' := hw.symm; clear hw; subst hw'
        go_wp2_with fail
        refine (rdec_is a _ cap b (K : Int) (n : Int) 1 _ rfl HB.out hbl x k2 e2 HD.out).mono ?_
        rintro e w1 ⟨v1, rfl, ⟨a1, c1, hv1, hb1⟩, hx1⟩
        subst hv1
        clear hb1
        go_wp2
        go_ret3
        exact ⟨_, rfl, IsRd.nil _, hx1⟩
  · rw [if_pos he] at hr
    simp only [Prod.mk.injEq] at hr
    obtain ⟨rfl, rfl, rfl⟩ := hr
    have tne : ((e1 : Int) != 0) = true := by simp; omega
    go_enter Try.func21, Try.ntmps21
    go_wp2_with fail
    refine (rget_is a _ cap b p _ n K e1 HG.out HB.out rfl).mono ?_
    rintro e wq ⟨rfl, hw⟩
    have hw' := hw.symm; clear hw; subst hw'
    go_wp2
    go_ret3
    exact ⟨_, rfl, IsRd.nil _, Ex.refl _⟩
end Go.Proofs.Ytkhbkifofkjjnaa
