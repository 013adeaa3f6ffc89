/-
  The walk of ChunkReads.
-/
import Derived.Test.YtnmonoafjijfhaaGreatM55
import Derived.Test.YtnmonoafjijfhaaGreatM50
import Derived.Test.YtnmonoafjijfhaaGreatM24
import Derived.Deep.Cut
import Derived.Deep.DeepCutAuto
namespace Go.Proofs.YtnmonoafjijfhaaGreat
theorem xor_nat (k : IntKind) (j : Nat) (hj : j ≤ k.bits) (hk : ∀ n : Int, 0 ≤ n → n < 2 ^ j → k.wrap n = n) (a b : Nat) (ha : a < 2 ^ j) (hb : b < 2 ^ j) :
    bits .xor k a b = ((a ^^^ b : Nat) : Int) := by
  have hp : 2 ^ j ≤ 2 ^ k.bits := Nat.pow_le_pow_right (by decide) hj
  have ha' : a % 2 ^ k.bits = a := Nat.mod_eq_of_lt (Nat.lt_of_lt_of_le ha hp)
  have hb' : b % 2 ^ k.bits = b := Nat.mod_eq_of_lt (Nat.lt_of_lt_of_le hb hp)
  have cast : ∀ n : Nat, n < 2 ^ j → ((n : Nat) : Int) < 2 ^ j := fun n h => by exact_mod_cast h
  simp only [bits, BitVec.ofInt_natCast, BitVec.toNat_xor, BitVec.toNat_ofNat, ha', hb']
  exact hk _ (Int.natCast_nonneg _) (cast _ (Nat.xor_lt_two_pow ha hb))
theorem wrp_u8 (n : Int) (h0 : 0 ≤ n) (h1 : n < 2 ^ 8) : IntKind.u8.wrap n = n := by rw [IntKind.wrap_u8]; omega
end Go.Proofs.YtnmonoafjijfhaaGreat
namespace Go.Proofs.YtnmonoafjijfhaaGreat.chunkReads
open Go.RowKit Go.Proofs.YtnmonoafjijfhaaGreat
set_option linter.unusedVariables false
set_option linter.unusedSimpArgs false
/-- The two rows of bytes that are held. -/
def Lists2 (g0 : Nat) (W : World) : Prop := ∀ i, i < 2 → ∃ (ax : Option Addr) (nx cx : Nat) (Y : List UInt8), W.cell? ⟨g0, i, none⟩ = some (.slice ax nx cx) ∧ nx = Y.length ∧ Byt W ax cx Y ∧ nx ≤ 140737488351232
set_option maxRecDepth 100000 in
set_option maxHeartbeats 8000000 in
theorem walk (p0 : Option Addr) (c0 : Nat) (l0 : List UInt8) (a1 : Int) (p2 : Option Addr) (c2 : Nat) (l2 : List Ce) (a3 : Bool) (a4 : Int) (a5 : Int) (a6 : Bool) (w : World) (b0 : Byt w p0 c0 l0) (w0 : l0.length ≤ 140737488351232) (w1 : -9223372036854775808 ≤ a1 ∧ a1 ≤ 9223372036854775807) (b2 : RdC w p2 c2 l2) (m2 : ∀ c ∈ l2, In64 c.n ∧ c.s.length ≤ maxLen) (w4 : -9223372036854775808 ≤ a4 ∧ a4 ≤ 9223372036854775807) (w5 : 0 ≤ a5 ∧ a5 ≤ 255) :
    Calls Tryz.prog 5 #[.slice p0 l0.length c0, .int .i64 a1, .slice p2 l2.length c2, .bool a3, .int .i64 a4, .int .u8 a5, .bool a6] w fun e w' => e = .returned (.bool true) ∧ Below w.heap.size w w' := by
  obtain ⟨tu, rfl⟩ : ∃ tu : Nat, a5 = tu := ⟨a5.toNat, by omega⟩
  have htu : tu < 256 := by omega
  have HB0 : Hid (Byt w p0 c0 l0) := b0
  have HB2 : Hid (RdC w p2 c2 l2) := b2
  have HM2 : Hid (∀ c ∈ l2, In64 c.n ∧ c.s.length ≤ maxLen) := m2
  have HW4 : Hid (-9223372036854775808 ≤ a4 ∧ a4 ≤ 9223372036854775807) := w4
  obtain ⟨n0, hn0⟩ : ∃ n, l0.length = n := ⟨_, rfl⟩
  obtain ⟨n2, hn2⟩ : ∃ n, l2.length = n := ⟨_, rfl⟩
  rw [hn0, hn2]
  rw [hn0] at w0
  have HN0 : Hid (l0.length = n0) := hn0
  have HN2 : Hid (l2.length = n2) := hn2
  clear b0 b2 m2 w4 w5 hn0 hn2
  go_enter Tryz.func5, Tryz.ntmps5
  go_wp2_with fail
  refine (within_any a1 1 w w1.1 w1.2 (by omega) (by omega)).mono ?_
  rintro e0 w1' ⟨r, hr, rfl, rfl⟩
  clear w1
  rename World => w
  obtain ⟨K, hK⟩ : ∃ K : Int, 1 + (r : Int) = K := ⟨_, rfl⟩
  have hk : K = 1 ∨ K = 2 := by omega
  have hwr : IntKind.i64.wrap (1 + (r : Int)) = K := by rw [IntKind.wrap_i64]; omega
  have hwk : IntKind.i64.wrap K = K := by rw [IntKind.wrap_i64]; omega
  have HK : Hid (K = 1 ∨ K = 2) := hk
  clear hk
  go_wp2_with fail
  clear hwr hwk hK hr
  refine (made_is K a3 p2 n2 c2 l2 w HK.out HN2.out.symm HB2.out HM2.out).mono ?_
  rintro e2 w2 ⟨v2, rfl, X, hoX, hXl, hXn, hx2⟩
  obtain ⟨ax, cx, rfl, hRX⟩ := hoX.rd cc_len
  obtain ⟨nX, hnX⟩ : ∃ n, X.length = n := ⟨_, rfl⟩
  rw [hnX]
  have HNX : Hid (X.length = nX) := hnX
  have HNmX : Hid (∀ c ∈ X, Nrm K c) := hXn
  have HRX : Hid (RdC w2 ax cx X) := hRX
  have HX2 : Hid (Ex w w2) := hx2
  have hnX6 : nX ≤ 60 := by omega
  clear hoX hXl hXn hRX hnX hx2
  obtain ⟨E, ex, hE⟩ : ∃ r e, Ck.encE K X = (r, e) := ⟨_, _, rfl⟩
  have HE : Hid (Ck.encE K X = (E, ex)) := hE
  obtain ⟨rfl, hHX⟩ := Holds.of HK.out (by have := HNX.out; omega) HNmX.out hE
  have hEs := hHX.short
  have hE0 : 0 < E.length := by
    have := (M.digs_len (Ck.form K X)).1
    rw [hHX.enc]; unfold Ck.enc Ck.hd
    simp only [List.length_append]
    omega
  obtain ⟨nE, hnE⟩ : ∃ nE, E.length = nE := ⟨_, rfl⟩
  rw [hnE] at hEs hE0
  have HNE : Hid (E.length = nE) := hnE
  clear hE hHX hnE
  go_wp2_with fail
  refine (rencode15_is K ax nX cx X w2 HNX.out.symm HRX.out (nrm_all HNmX.out).2.2 (fun c hc => (HNmX.out c hc).short) E 0 HE.out).mono ?_
  rintro e6 w6 ⟨v6, rfl, ho6, hx6⟩
  obtain ⟨gc, cb', rfl, hg1, hg2, hg3, hg4⟩ := OwnR.form (e := 5) (enc := n8) ho6 (by have := HNE.out; omega)
  rw [HNE.out] at ho6 ⊢
  have HO6 : Hid (OwnR 5 n8 w6 w2.heap.size (.slice (some ⟨gc, 0, none⟩) nE cb') E) := ho6
  have HX6 : Hid (Ex w w6) := HX2.out.trans hx6
  have hgcw : w.heap.size ≤ gc := by have := HX2.out.size; omega
  have hnc : nE ≤ cb' := by have := HNE.out; omega
  unfold maxLen at hg4
  clear ho6 hx6 hg1 hg3 HRX HX2
  go_wp2_with fail
  refine (within_any a4 ((nE : Int) - 1) w6 HW4.out.1 HW4.out.2 (by omega) (by omega)).mono ?_
  rintro e7 wq ⟨k, hk, rfl, hwq⟩
  have hwq' := hwq.symm; clear hwq; subst hwq'
  have hki : (k : Int) < (nE : Int) := by omega
  have hkl : k < E.length := by have := HNE.out; omega
  have hcell := OwnR.cell HO6.out HNE.out.symm hkl
  have hfz := OwnR.frozen k HO6.out HNE.out.symm
  obtain ⟨y, hy⟩ : ∃ y, y = E[k].toNat := ⟨_, rfl⟩
  have hy8 : y < 256 := by rw [hy]; exact UInt8.toNat_lt _
  have hcy : w6.cell? ⟨gc, k, none⟩ = some (.int .u8 (y : Int)) := by rw [hcell, hy]
  obtain ⟨x8, hx8⟩ : ∃ x8, x8 = y ^^^ tu := ⟨_, rfl⟩
  have hxl : x8 < 256 := by rw [hx8]; exact Nat.xor_lt_two_pow (n := 8) (by omega) (by omega)
  have hxor : bits .xor .u8 (y : Int) (tu : Int) = (x8 : Int) := by rw [hx8]; exact xor_nat .u8 8 (by decide) wrp_u8 y tu (by omega) (by omega)
  obtain ⟨EC, hEC⟩ : ∃ EC, EC = E.set k (UInt8.ofNat x8) := ⟨_, rfl⟩
  have hset : OwnR 5 n8 (w6.setCell ⟨gc, k, none⟩ (.int .u8 (x8 : Int))) w2.heap.size (.slice (some ⟨gc, 0, none⟩) nE cb') EC := by
    rw [hEC]
    exact OwnR.set HO6.out HNE.out.symm (UInt8.ofNat x8) (by simp [n8]; omega)
  obtain ⟨w7, hw7⟩ : ∃ w7, w6.setCell ⟨gc, k, none⟩ (.int .u8 (x8 : Int)) = w7 := ⟨_, rfl⟩
  have HX7 : Hid (Ex w w7) := (by rw [← hw7]; exact HX6.out.setCell (p := ⟨gc, k, none⟩) hgcw _ : Ex w w7)
  rw [hw7] at hset
  have HB7 : Hid (Byt w7 (some ⟨gc, 0, none⟩) cb' EC) := Own.bytS hset
  have HECl : Hid (EC.length = nE) := (by rw [hEC, List.length_set]; exact HNE.out : EC.length = nE)
  have HB07 : Hid (Byt w7 p0 c0 l0) := HB0.out.below HX7.out
  clear hcell hy hx8 hEC hset hkl
  go_upto_if 56 with fail
  go_cut [15] (fun v wx => ∃ (n' : Nat) (Y : List UInt8), v = .slice (some ⟨gc, 0, none⟩) n' cb' ∧ n' ≤ nE ∧ Hid (Y.length = n') ∧ Hid (Byt w7 (some ⟨gc, 0, none⟩) cb' Y) ∧ wx = w7)
  case first =>
    have HYk : Hid ((EC.take k).length = k) := (by rw [List.length_take, HECl.out]; omega : (EC.take k).length = k)
    have HBk : Hid (Byt w7 (some ⟨gc, 0, none⟩) cb' (EC.take k)) := HB7.out.take (by rw [HECl.out]; omega)
    have hkc : (k : Int) ≤ (cb' : Int) := by omega
    cases a6 with
    | true =>
      go_wp2_with fail
      go_meet
      exact ⟨k, EC.take k, rfl, by omega, HYk, HBk, rfl⟩
    | false =>
      go_wp2_with fail
      go_meet
      exact ⟨nE, EC, rfl, by omega, HECl, HB7, rfl⟩
  case rest =>
    obtain ⟨n', Y', rfl, hn', HY', HBY', hwx⟩ := hcut
    have hwx' := hwx.symm
    clear hwx
    subst hwx'
    obtain ⟨W, hW⟩ : ∃ W, w7.alloc (.cells #[.slice p0 n0 c0, .slice (some ⟨gc, 0, none⟩) n' cb'] 22) = W := ⟨_, rfl⟩
    have hxW : Ex w7 W := by rw [← hW]; exact (Below.refl _ _).alloc (Nat.le_refl _) _
    have HXW : Hid (Ex w W) := HX7.out.trans hxW
    have hq0 : W.cell? ⟨w7.heap.size, 0, none⟩ = some (.slice p0 n0 c0) := by rw [← hW]; simp
    have hq1 : W.cell? ⟨w7.heap.size, 1, none⟩ = some (.slice (some ⟨gc, 0, none⟩) n' cb') := by rw [← hW]; simp
    have HL : Hid (Lists2 w7.heap.size W) := (by
      intro i hi
      have hi2 : i = 0 ∨ i = 1 := by omega
      rcases hi2 with rfl | rfl
      · exact ⟨p0, n0, c0, l0, hq0, HN0.out.symm, HB07.out.below hxW, w0⟩
      · exact ⟨some ⟨gc, 0, none⟩, n', cb', Y', hq1, HY'.out.symm, HBY'.out.below hxW, by omega⟩ : Lists2 w7.heap.size W)
    clear hxW hq0 hq1 HB07 HBY' HY' HB7 HX7 HO6 HX6 hcy hfz hxor hw7
    go_wp2_with fail
    obtain ⟨g0, hg0⟩ : ∃ g0, w7.heap.size = g0 := ⟨_, rfl⟩
    rw [hg0] at HL ⊢
    clear hW hg0
    go_loopw [19, 20, 21, 22, 23, 24, 25, 26, 64] (fun _ _ _ _ _ _ _ _ iv wr => ∃ i : Nat, i ≤ 2 ∧ iv = .int .i64 (i : Int) ∧ Hid (Ex W wr)) (fun _ _ _ _ _ _ _ _ iv wr => 2 - (intOf iv).toNat)
    case atStart => exact ⟨0, by omega, rfl, Ex.refl _⟩
    case round =>
      obtain ⟨i, hi, rfl, HX⟩ := hrel
      by_cases hlt : i < 2
      · have ti : (i : Int) < 2 := by omega
        obtain ⟨ay, ny, cy, Y, hq, hny, hby, hy47⟩ := HL.out i hlt
        have hq' : wr.cell? ⟨g0, i, none⟩ = some (.slice ay ny cy) := cell_ext hq HX.out
        have HNY : Hid (ny = Y.length) := hny
        have HBY : Hid (Byt wr ay cy Y) := hby.below HX.out
        clear hq hny hby
        by_cases h2 : 2000 < ny
        · have t2 : (2000 : Int) < (ny : Int) := by omega
          go_wp2_with fail
          refine (known_is wr).mono ?_
          rintro ek wk ⟨rfl, hxk⟩
          go_wp2_with fail
          go_ret
          exact ⟨rfl, (HXW.out.trans HX.out).trans hxk⟩
        · have t2 : ¬ (2000 : Int) < (ny : Int) := by omega
          go_wp2_with fail
          have hrm := roomy_any ay cy Y wr HBY.out (by rw [← HNY.out]; omega)
          rw [← HNY.out] at hrm
          refine hrm.mono ?_
          rintro e5 w5 ⟨af, cf, rfl, hbf, hx5⟩
          have hrl : (room Y).length = ny + 80 := by rw [room_len, HNY.out]
          rw [hrl]
          have hfc := hbf.1
          rw [hrl] at hfc
          have hfm := hbf.2.1
          unfold maxLen at hfm
          have HBF : Hid (Byt w5 af cf (room Y)) := hbf
          have HRl : Hid ((room Y).length = ny + 80) := hrl
          have hbt : Byt w5 af cf Y := by
            have h := hbf.take (k := Y.length) (by rw [room_len]; omega)
            rw [room_take] at h
            exact h
          have HBT : Hid (Byt w5 af cf Y) := hbt
          have HBY5 : Hid (Byt w5 ay cy Y) := HBY.out.below hx5
          have HX5 : Hid (Ex W w5) := HX.out.trans hx5
          have hyc : (ny : Int) ≤ (cf : Int) := by omega
          have hY47 : Y.length ≤ 140737488355328 := by rw [← HNY.out]; omega
          have HYl : Hid (Y.length ≤ 140737488355328) := hY47
          have hlenr : ((ny + 80 : Nat) : Int) = (ny : Int) + 80 := by omega
          clear hrm hrl hbf hbt hx5 HX HBY hY47
          go_wp2_with fail
          refine (open_is af ny cf Y w5 HNY.out HBT.out HYl.out).mono ?_
          rintro e6 w6 ⟨v6, rfl, hop, hx6⟩
          have HOp : Hid (OpenIs Y v6 w5 w6) := hop
          have HX6 : Hid (Ex w5 w6) := hx6
          clear hop hx6
          cases hopn : Ck.opn Y with
          | none =>
            have HOn : Hid (Ck.opn Y = none) := hopn
            have h6 := HOp.out.2 (shut hopn)
            subst h6
            clear hopn HOp
            go_wp2_with fail
            refine (ropen15_is ay ny cy Y w6 HNY.out (HBY5.out.below HX6.out) HYl.out).mono ?_
            rintro e7 w7' ⟨v7, rfl, hro, hx7⟩
            have h7 := hro.1 HOn.out
            subst h7
            have HX7 : Hid (Ex w5 w7') := HX6.out.trans hx7
            clear hro hx7
            go_wp2_with fail
            have hin := intact_yes af ay cf cy (ny + 80) Y w7' HRl.out.symm (HBF.out.below HX7.out) (HBY5.out.below HX7.out) (by rw [← HNY.out]; omega)
            rw [← HNY.out] at hin
            refine hin.mono ?_
            rintro e8 w8 ⟨rfl, hx8⟩
            have HX8 : Hid (Ex W w8) := (HX5.out.trans HX7.out).trans hx8
            clear hx8 hin
            go_wp2_with fail
            go_roundw
            case rel => exact ⟨i + 1, by omega, by go_num, HX8⟩
            case measure => simp [intOf]; omega
          | some x =>
            obtain ⟨kk, L, D⟩ := x
            have HO : Hid (Ck.opn Y = some (kk, L, D)) := hopn
            obtain ⟨g, fp, h6, hok, hu, hg, hfp⟩ := HOp.out.1 (opened hopn).1
            subst h6
            have HOkB : Hid (Ok Y) := hok
            have HC6 : Hid (Chk w6 g Y fp) := .inl hu
            have HG : Hid (w5.heap.size ≤ g) := hg
            clear hopn HOp hok hu hg hfp
            go_wp2_with fail
            refine (ropen15_is ay ny cy Y w6 HNY.out (HBY5.out.below HX6.out) HYl.out).mono ?_
            rintro e7 w7' ⟨v7, rfl, hro, hx7⟩
            obtain ⟨al, cl, ad, cd, rfl, hrl, hrd⟩ := hro.2 _ _ _ HO.out
            obtain ⟨nl, hnl⟩ : ∃ nl, L.length = nl := ⟨_, rfl⟩
            obtain ⟨nd, hnd⟩ : ∃ nd, D.length = nd := ⟨_, rfl⟩
            rw [hnl, hnd]
            have HT : Hid (Calls Tryz.prog 13 #[.pointer (some ⟨g, 0, none⟩), .int .i64 kk, .slice al nl cl, .slice ad nd cd] w7' fun e w' => e = .returned (.bool true) ∧ Ex w5 w') := tells_all (w0 := w5) HO.out (HC6.out.below hx7) HOkB.out hnl.symm hrl hnd.symm hrd (HX6.out.trans hx7) HG.out
            have HX7 : Hid (Ex w5 w7') := HX6.out.trans hx7
            clear hro hrl hrd hnl hnd hx7
            by_cases h3 : nl < 300
            · have t3 : (nl : Int) < 300 := by omega
              go_wp2_with fail
              refine Calls.mono HT.out ?_
              rintro e8 w8 ⟨rfl, hx8⟩
              have HX8 : Hid (Ex w5 w8) := hx8
              clear hx8
              go_wp2_with fail
              have hin := intact_yes af ay cf cy (ny + 80) Y w8 HRl.out.symm (HBF.out.below HX8.out) (HBY5.out.below HX8.out) (by rw [← HNY.out]; omega)
              rw [← HNY.out] at hin
              refine hin.mono ?_
              rintro e9 w9 ⟨rfl, hx9⟩
              have HX9 : Hid (Ex W w9) := (HX5.out.trans HX8.out).trans hx9
              clear hx9 hin
              go_wp2_with fail
              go_roundw
              case rel => exact ⟨i + 1, by omega, by go_num, HX9⟩
              case measure => simp [intOf]; omega
            · have t3 : ¬ (nl : Int) < 300 := by omega
              go_wp2_with fail
              have hin := intact_yes af ay cf cy (ny + 80) Y w7' HRl.out.symm (HBF.out.below HX7.out) (HBY5.out.below HX7.out) (by rw [← HNY.out]; omega)
              rw [← HNY.out] at hin
              refine hin.mono ?_
              rintro e9 w9 ⟨rfl, hx9⟩
              have HX9 : Hid (Ex W w9) := (HX5.out.trans HX7.out).trans hx9
              clear hx9 hin
              go_wp2_with fail
              go_roundw
              case rel => exact ⟨i + 1, by omega, by go_num, HX9⟩
              case measure => simp [intOf]; omega
      · have ti : ¬ (i : Int) < 2 := by omega
        go_wp2_with fail
        refine (known_is wr).mono ?_
        rintro ek wk ⟨rfl, hxk⟩
        go_wp2_with fail
        go_ret
        exact ⟨rfl, (HXW.out.trans HX.out).trans hxk⟩
end Go.Proofs.YtnmonoafjijfhaaGreat.chunkReads
