/-
  The walk of ChunkForms.
-/
import Derived.Test.YtnmonoafjijfhabGreatM53
import Derived.Deep.Cut
import Derived.Deep.DeepCutAuto
namespace Go.Proofs.YtnmonoafjijfhabGreat
open Go.RowKit
set_option linter.unusedVariables false
set_option linter.unusedSimpArgs false
set_option maxRecDepth 100000 in
theorem kind_at (g : Nat) (K : Int) (w : World) (hz : w.cell? ⟨g, 0, none⟩ = some (.int .i64 K)) :
    Calls Tryz.prog 8 #[.pointer (some ⟨g, 0, none⟩)] w fun e w' => e = .returned (.int .i64 K) ∧ w' = w := by
  go_enter Tryz.func8, Tryz.ntmps8
  go_wp2_with fail
  go_ret
  exact ⟨rfl, rfl⟩
theorem form2 (X : List Ce) : decide (Ck.form 2 X = 2) = decide ((T.bld (Ck.txts X)).length ≤ 16) := by
  unfold Ck.form
  rw [if_neg (show ¬ (2 : Int) = 1 by decide)]
  by_cases h : (T.bld (Ck.txts X)).length ≤ 16 <;> simp [h]
theorem form2_if {X : List Ce} {is : Bool} (h : decide ((T.bld (Ck.txts X)).length ≤ 16) = is) (d : List (List UInt8)) : (if Ck.form 2 X = 2 then d else []) = if is = true then d else [] := by
  rw [← h, ← form2]
  by_cases h : Ck.form 2 X = 2 <;> simp [h]
def isIn (S : List (List UInt8)) (s : List UInt8) (k : Nat) : Bool := decide (s ∈ S.take k)
theorem isIn_0 (S : List (List UInt8)) (s : List UInt8) : isIn S s 0 = false := by simp [isIn]
theorem isIn_succ {S : List (List UInt8)} {s y : List UInt8} {k : Nat} (h : S[k]? = some y) : isIn S s (k + 1) = (isIn S s k || (str y).toList == (str s).toList) := by
  unfold isIn
  rw [str_toList, str_toList, List.take_add_one, h, Bool.eq_iff_iff]
  simp only [Option.toList_some, List.mem_append, List.mem_singleton, decide_eq_true_eq, Bool.or_eq_true, beq_iff_eq]
  exact ⟨fun x => x.imp id Eq.symm, fun x => x.imp id Eq.symm⟩
theorem isIn_all {S : List (List UInt8)} {s : List UInt8} {m : Nat} (h : S.length = m) : isIn S s m = true ↔ s ∈ S := by
  unfold isIn
  rw [List.take_of_length_le (by omega)]
  simp
def hadB (S : List (List UInt8)) (c : Ce) (k : Nat) : Bool := decide (c.k = 0) || isIn S c.s k
theorem hadB_0 (S : List (List UInt8)) (c : Ce) : (c.k == 0) = hadB S c 0 := by
  unfold hadB
  rw [isIn_0, Bool.or_false, Bool.eq_iff_iff]
  simp
theorem hadB_succ {S : List (List UInt8)} {c : Ce} {y : List UInt8} {k : Nat} (h : S[k]? = some y) : hadB S c (k + 1) = (hadB S c k || (str y).toList == (str c.s).toList) := by
  unfold hadB
  rw [isIn_succ h, Bool.or_assoc]
theorem hadB_all {S : List (List UInt8)} {c : Ce} {m : Nat} (h : S.length = m) : hadB S c m = true ↔ c.k = 0 ∨ c.s ∈ S := by
  unfold hadB
  rw [Bool.or_eq_true, isIn_all h]
  simp
end Go.Proofs.YtnmonoafjijfhabGreat
namespace Go.Proofs.YtnmonoafjijfhabGreat.chunkForms
open Go.RowKit Go.Proofs.YtnmonoafjijfhabGreat
set_option linter.unusedVariables false
set_option linter.unusedSimpArgs false
set_option maxRecDepth 100000 in
set_option maxHeartbeats 8000000 in
theorem walk (p0 : Option Addr) (c0 : Nat) (l0 : List Ce) (a1 : Bool) (w : World) (b0 : RdC w p0 c0 l0) (m0 : ∀ c ∈ l0, In64 c.n ∧ c.s.length ≤ maxLen) :
    Calls Tryz.prog 3 #[.slice p0 l0.length c0, .bool a1] w fun e w' => e = .returned (.bool true) ∧ Below w.heap.size w w' := by
  have HB0 : Hid (RdC w p0 c0 l0) := b0
  have HM0 : Hid (∀ c ∈ l0, In64 c.n ∧ c.s.length ≤ maxLen) := m0
  obtain ⟨n0, hn0⟩ : ∃ n, l0.length = n := ⟨_, rfl⟩
  rw [hn0]
  have HN0 : Hid (l0.length = n0) := hn0
  clear b0 m0 hn0
  go_enter Tryz.func3, Tryz.ntmps3
  go_wp2_with fail
  refine (made_is 2 a1 p0 n0 c0 l0 w (.inr rfl) HN0.out.symm HB0.out HM0.out).mono ?_
  rintro e2 w2 ⟨v2, rfl, X, hoX, hXl, hXn, hx2⟩
  obtain ⟨ax, cx, rfl, hRX⟩ := hoX.rd cc_len
  obtain ⟨nX, hnX⟩ : ∃ n, X.length = n := ⟨_, rfl⟩
  rw [hnX]
  have HNX : Hid (X.length = nX) := hnX
  have HNmX : Hid (∀ c ∈ X, Nrm 2 c) := hXn
  have HRX : Hid (RdC w2 ax cx X) := hRX
  have HX2 : Hid (Ex w w2) := hx2
  have hnX6 : nX ≤ 60 := by omega
  have HB02 : Hid (RdC w2 p0 c0 l0) := HB0.out.below hx2
  clear hoX hXl hXn hRX hnX hx2
  go_wp2_with fail
  refine (made_is 1 a1 p0 n0 c0 l0 w2 (.inl rfl) HN0.out.symm HB02.out HM0.out).mono ?_
  rintro e3 w3 ⟨v3, rfl, Y, hoY, hYl, hYn, hx3⟩
  obtain ⟨ay, cy, rfl, hRY⟩ := hoY.rd cc_len
  obtain ⟨nY, hnY⟩ : ∃ n, Y.length = n := ⟨_, rfl⟩
  rw [hnY]
  have HNY : Hid (Y.length = nY) := hnY
  have HNmY : Hid (∀ c ∈ Y, Nrm 1 c) := hYn
  have HRY : Hid (RdC w3 ay cy Y) := hRY
  have HRX3 : Hid (RdC w3 ax cx X) := HRX.out.below hx3
  have HX3 : Hid (Ex w w3) := HX2.out.trans hx3
  have hnY6 : nY ≤ 60 := by omega
  clear hoY hYl hYn hRY hnY hx3
  obtain ⟨bx, ex, hbx⟩ : ∃ r e, Ck.encE 2 X = (r, e) := ⟨_, _, rfl⟩
  obtain ⟨by', ey, hby⟩ : ∃ r e, Ck.encE 1 Y = (r, e) := ⟨_, _, rfl⟩
  have HEx : Hid (Ck.encE 2 X = (bx, ex)) := hbx
  have HEy : Hid (Ck.encE 1 Y = (by', ey)) := hby
  obtain ⟨rfl, hHX⟩ := Holds.of (.inr rfl) (by have := HNX.out; omega) HNmX.out hbx
  obtain ⟨rfl, hHY⟩ := Holds.of (.inl rfl) (by have := HNY.out; omega) HNmY.out hby
  have HHX : Hid (Holds 2 X bx) := hHX
  have HHY : Hid (Holds 1 Y by') := hHY
  have hfX := hHX.form (.inr rfl) (by have := HNX.out; omega) HNmX.out
  have hfY := hHY.form (.inl rfl) (by have := HNY.out; omega) HNmY.out
  obtain ⟨is, his⟩ : ∃ is : Bool, decide ((T.bld (Ck.txts X)).length ≤ 16) = is := ⟨_, rfl⟩
  have HIS : Hid (decide ((T.bld (Ck.txts X)).length ≤ 16) = is) := his
  have HrX : Hid (decide ((Ck.lread bx).f = 2) = is) := (by rw [hfX.1, form2]; exact his : decide ((Ck.lread bx).f = 2) = is)
  have HLD : Hid (LD bx = if is = true then T.bld (Ck.txts X) else []) := (by rw [hfX.2]; exact form2_if his _ : LD bx = if is = true then T.bld (Ck.txts X) else [])
  have HrY : Hid (decide ((Ck.lread by').f = 2) = false) := (by rw [hfY.1]; rfl : decide ((Ck.lread by').f = 2) = false)
  clear hbx hby hHX hHY hfX hfY his
  go_wp2_with fail
  refine (encode_is 2 ax nX cx X w3 HNX.out.symm HRX3.out (nrm_all HNmX.out).2.2 bx 0 HEx.out).mono ?_
  rintro e4 w4 ⟨v4, rfl, ho4, hx4⟩
  obtain ⟨ab, cb', rfl, hb4⟩ := ho4.byt
  obtain ⟨nb, hnb⟩ : ∃ n, bx.length = n := ⟨_, rfl⟩
  rw [hnb]
  have HNb : Hid (bx.length = nb) := hnb
  have HBx4 : Hid (Byt w4 ab cb' bx) := hb4
  have HRX4 : Hid (RdC w4 ax cx X) := HRX3.out.below hx4
  have HRY4 : Hid (RdC w4 ay cy Y) := HRY.out.below hx4
  have HX4 : Hid (Ex w w4) := HX3.out.trans hx4
  clear ho4 hb4 hnb hx4
  go_wp2_with fail
  refine (encode_is 1 ay nY cy Y w4 HNY.out.symm HRY4.out (nrm_all HNmY.out).2.2 by' 0 HEy.out).mono ?_
  rintro e5 w5 ⟨v5, rfl, ho5, hx5⟩
  obtain ⟨ad, cd', rfl, hb5⟩ := ho5.byt
  obtain ⟨nd, hnd⟩ : ∃ n, by'.length = n := ⟨_, rfl⟩
  rw [hnd]
  have HNd : Hid (by'.length = nd) := hnd
  have HBy5 : Hid (Byt w5 ad cd' by') := hb5
  have HBx5 : Hid (Byt w5 ab cb' bx) := HBx4.out.below hx5
  have HRX5 : Hid (RdC w5 ax cx X) := HRX4.out.below hx5
  have HX5 : Hid (Ex w w5) := HX4.out.trans hx5
  clear ho5 hb5 hnd hx5
  go_wp2_with fail
  refine (open_is ab nb cb' bx w5 HNb.out.symm HBx5.out (by have := HHX.out.short; omega)).mono ?_
  rintro e6 w6 ⟨v6, rfl, hop, hx6⟩
  obtain ⟨g1, fp1, rfl, hok1, hu1, hg1, hfp1⟩ := hop.1 HHX.out.good
  have HOk1 : Hid (Ok bx) := hok1
  have hC6 : Chk w6 g1 bx (fun q => fp1 q ∧ q < w6.heap.size) := Chk.tight (.inl hu1)
  have HC6 : Hid (Chk w6 g1 bx (fun q => fp1 q ∧ q < w6.heap.size)) := hC6
  have HG1 : Hid (w.heap.size ≤ g1 ∧ g1 < w6.heap.size) := ⟨by have := HX5.out.size; omega, hC6.lt⟩
  have HX6 : Hid (Ex w w6) := HX5.out.trans hx6
  have HBy6 : Hid (Byt w6 ad cd' by') := HBy5.out.below hx6
  have HRX6 : Hid (RdC w6 ax cx X) := HRX5.out.below hx6
  clear hop hok1 hu1 hg1 hfp1 hx6 hC6
  go_wp2_with fail
  refine (open_is ad nd cd' by' w6 HNd.out.symm HBy6.out (by have := HHY.out.short; omega)).mono ?_
  rintro e7 w7 ⟨v7, rfl, hop, hx7⟩
  obtain ⟨g2, fp2, rfl, hok2, hu2, hg2, hfp2⟩ := hop.1 HHY.out.good
  have HOk2 : Hid (Ok by') := hok2
  have hC7 : Chk w7 g2 by' (fun q => fp2 q ∧ q < w7.heap.size) := Chk.tight (.inl hu2)
  have HD7 : Hid (Chk w7 g2 by' (fun q => fp2 q ∧ q < w7.heap.size)) := hC7
  have HC7 : Hid (Chk w7 g1 bx (fun q => fp1 q ∧ q < w6.heap.size)) := HC6.out.below hx7
  have HG2 : Hid (w6.heap.size ≤ g2 ∧ g2 < w7.heap.size ∧ ∀ q, fp2 q → w6.heap.size ≤ q) := ⟨hg2, hC7.lt, hfp2⟩
  have HX7 : Hid (Ex w w7) := HX6.out.trans hx7
  have HRX7 : Hid (RdC w7 ax cx X) := HRX6.out.below hx7
  clear hop hok2 hu2 hg2 hfp2 hx7 hC7
  go_wp2_with fail
  go_loopw [15, 16, 17, 18] (fun sv iv hv kv wr => ∃ (i : Nat) (S : List (List UInt8)), i ≤ nX ∧ iv = .int .i64 (i : Int) ∧ S.length ≤ i ∧ Hid (Seen S (X.take i)) ∧ Hid (OwnR 9 st wr w7.heap.size sv S) ∧ Hid (Ex w7 wr)) (fun sv iv hv kv wr => nX - (intOf iv).toNat)
  case atStart => exact ⟨0, [], by omega, rfl, by simp, Seen.none_, (World.ownsRow_nil _ _ _ _ : OwnR 9 st w7 w7.heap.size (.slice none 0 0) []), Ex.refl _⟩
  case round =>
    obtain ⟨i, S, hi, rfl, hSi, HS, HO, HXr⟩ := hrel
    rename World => wi
    obtain ⟨m, hm⟩ : ∃ m, S.length = m := ⟨_, rfl⟩
    have HM : Hid (S.length = m) := hm
    obtain ⟨a9, c9, rfl, hb9⟩ := HO.out.rd
    rw [hm] at hSi HO ⊢
    have HBS : Hid (Rd st wi a9 c9 S) := hb9
    have hmc : m ≤ c9 := by have := hb9.1; omega
    have hcm := hb9.2.1
    unfold maxLen at hcm
    clear hm hb9
    by_cases hlt : i < nX
    · have ti : (i : Int) < (nX : Int) := by omega
      have hltX : i < X.length := by rw [HNX.out]; exact hlt
      obtain ⟨bq, off, rfl, e0, e1, e2, e3⟩ := RdC.four (HRX7.out.below HXr.out) hltX
      obtain ⟨d, hd⟩ : ∃ d, X[i] = d := ⟨_, rfl⟩
      rw [hd] at e0 e1 e2 e3
      have HSkip : Hid (d.k = 0 ∨ d.s ∈ S → Seen S (X.take (i + 1))) := (fun h => HS.out.skip hltX (by rw [hd]; exact h) : d.k = 0 ∨ d.s ∈ S → Seen S (X.take (i + 1)))
      have HAdd : Hid (d.k ≠ 0 → ¬ d.s ∈ S → Seen (S ++ [d.s]) (X.take (i + 1))) := (fun h1 h2 => by have := HS.out.add hltX (by rw [hd]; exact h1) (by rw [hd]; exact h2); rw [hd] at this; exact this : d.k ≠ 0 → ¬ d.s ∈ S → Seen (S ++ [d.s]) (X.take (i + 1)))
      have th := hadB_0 S d
      have HE3 : Hid (wi.cell? ⟨bq, off + i * 4 + 3, none⟩ = some (.string (str d.s))) := e3
      clear hd hltX e0 e2 e3
      go_wp2_with fail
      clear th e1
      go_loopw [17, 18] (fun hv kv wr => ∃ k : Nat, k ≤ m ∧ hv = .bool (hadB S d k) ∧ kv = .int .i64 (k : Int) ∧ Hid (Ex wi wr)) (fun hv kv wr => m - (intOf kv).toNat)
      case atStart => exact ⟨0, by omega, rfl, rfl, Ex.refl _⟩
      case round =>
        obtain ⟨k, hk, rfl, rfl, HXo⟩ := hrel
        by_cases hkl : k < m
        · have tk : (k : Int) < (m : Int) := by omega
          have hkS : k < S.length := by rw [HM.out]; exact hkl
          obtain ⟨b2, off2, rfl, f0⟩ := (HBS.out.below HXo.out).at hkS
          obtain ⟨y, hy⟩ : ∃ y, S[k] = y := ⟨_, rfl⟩
          rw [hy] at f0
          have f3 := dcell_ex HE3.out HXo.out
          have hsk : S[k]? = some y := by rw [List.getElem?_eq_getElem hkS, hy]
          obtain ⟨z, hz⟩ : ∃ z, ((str y).toList == (str d.s).toList) = z := ⟨_, rfl⟩
          have HZ : Hid (hadB S d (k + 1) = (hadB S d k || z)) := (by rw [hadB_succ hsk, hz] : hadB S d (k + 1) = (hadB S d k || z))
          obtain ⟨hb, hhb⟩ : ∃ hb, hadB S d k = hb := ⟨_, rfl⟩
          rw [hhb] at HZ ⊢
          clear hkS hy hsk hhb
          cases hb with
          | true =>
            go_wp2_with fail
            go_quiet (fail)
            go_wp2_with fail
            go_roundw
            case rel => exact ⟨k + 1, by omega, by rw [HZ.out]; rfl, by go_num, HXo.out.trans (Ex.drewN _ _)⟩
            case measure => simp [intOf]; omega
          | false =>
            go_wp2_with fail
            go_quiet (fail)
            go_wp2_with fail
            go_roundw
            case rel => exact ⟨k + 1, by omega, by rw [HZ.out]; rfl, by go_num, HXo.out.trans (Ex.drewN _ _)⟩
            case measure => simp [intOf]; omega
        · obtain rfl : k = m := by omega
          have tk : ¬ (k : Int) < (k : Int) := by omega
          have HX7o : Hid (Ex w7 wr) := HXr.out.trans HXo.out
          obtain ⟨hb, hhb⟩ : ∃ hb, hadB S d k = hb := ⟨_, rfl⟩
          have hall := hadB_all (S := S) (c := d) HM.out
          rw [hhb] at hall ⊢
          have HAll : Hid (hb = true ↔ d.k = 0 ∨ d.s ∈ S) := hall
          have HOo : Hid (OwnR 9 st wr w7.heap.size (.slice a9 k c9) S) := HO.out.later HXo.out
          have f3 := dcell_ex HE3.out HXo.out
          clear hhb hall
          cases hb with
          | true =>
            have HS2 : Hid (Seen S (X.take (i + 1))) := HSkip.out (HAll.out.1 rfl)
            go_wp2_with fail
            go_roundw
            case rel => exact ⟨i + 1, S, by omega, by go_num, by have := HM.out; omega, HS2, HOo, HX7o⟩
            case measure => simp [intOf]; omega
          | false =>
            have HS2 : Hid (Seen (S ++ [d.s]) (X.take (i + 1))) := HAdd.out (fun h => by have := HAll.out.2 (.inl h); cases this) (fun h => by have := HAll.out.2 (.inr h); cases this)
            have hov := HOo.out
            have hsz : w7.heap.size ≤ wr.heap.size := HX7o.out.size
            have hlk := HM.out
            go_wp2_with (at_builtin; refine wpList_append_rd (e := 9) (enc := st) rfl (.tmp 107) (.tmp 113) 31 rfl [] 16 Tryz.underlying31 Tryz.info9 rfl (fun _ => rfl) w7.heap.size _ S rfl (hov.alloc _) _ _ _ [d.s] rfl rfl (Rd.laid wr 9 [d.s] (by simp)) (by simp [maxLen]; omega) (by simp; omega) (by simp; omega) ?_; intro v9 w9 ho9 hg9; have X9 : Ex w7 w9 := step_belowR (Below.alloc HX7o.out hsz _) (by simp; omega) (hov.alloc _) hg9; clear hg9)
            have HO9 : Hid (OwnR 9 st w9 w7.heap.size v9 (S ++ [d.s])) := ho9
            have HX9 : Hid (Ex w7 w9) := X9
            clear ho9 X9 hov
            go_wp2
            go_roundw
            case rel => exact ⟨i + 1, S ++ [d.s], by omega, by go_num, by simp; omega, HS2, HO9, HX9⟩
            case measure => simp [intOf]; omega
    · have ti : ¬ (i : Int) < (nX : Int) := by omega
      have HSX : Hid (Seen S X) := (by have h := HS.out; rwa [List.take_of_length_le (by rw [HNX.out]; omega)] at h : Seen S X)
      have hml : m = (T.bld (Ck.txts X)).length := HM.out.symm.trans HSX.out.len
      have HML : Hid (m = (T.bld (Ck.txts X)).length) := hml
      have HIM : Hid (decide (m ≤ 16) = is) := (by rw [hml]; exact HIS.out : decide (m ≤ 16) = is)
      have hlt9 := (World.ownsRow.lt HO.out)
      have HLt : Hid (∀ q off, a9 = some ⟨q, off, none⟩ → w7.heap.size ≤ q) := (fun q off e => (hlt9 q (by rw [e]; rfl)).1 : ∀ q off, a9 = some ⟨q, off, none⟩ → w7.heap.size ≤ q)
      clear hml hlt9
      go_wp2_with fail
      refine (dict2_is g1 bx _ wi (HC7.out.below HXr.out) HOk1.out is HrX.out).mono ?_
      rintro e8 w8 ⟨v8, rfl, hdc⟩
      obtain ⟨fp8, hd8, _, ho8, _, hg8⟩ := hdc
      have hlt8 := (World.ownsRow.lt ho8)
      obtain ⟨at8, ct8, rfl, hb8⟩ := ho8.rd
      obtain ⟨nt, hnt⟩ : ∃ n, (LD bx).length = n := ⟨_, rfl⟩
      rw [hnt] at hlt8 ⊢
      have HNT : Hid ((LD bx).length = nt) := hnt
      have HT8 : Hid (Rd st w8 at8 ct8 (LD bx)) := hb8
      have HTLt : Hid (∀ q off, at8 = some ⟨q, off, none⟩ → w7.heap.size ≤ q) := (fun q off e => by have h1 := (hlt8 q (by rw [e]; rfl)).1; have h2 := HXr.out.size; omega : ∀ q off, at8 = some ⟨q, off, none⟩ → w7.heap.size ≤ q)
      have HS8 : Hid (Rd st w8 a9 c9 S) := rd_far HBS.out hg8 (fun _ q off e h => by simp only [Option.some.injEq] at h; have h1 := HLt.out q off e; have h2 := HG1.out; have h3 := HG2.out; omega)
      have HD8 : Hid (Chk w8 g2 by' (fun q => fp2 q ∧ q < w7.heap.size)) := Chk.far (HD7.out.below HXr.out) hg8 (by have h2 := HG1.out; have h3 := HG2.out; omega) (fun hq => by have h1 := HG2.out.2.2 _ hq.1; have h2 := HG1.out; omega)
      have HK8 : Hid (w8.cell? ⟨g1, 0, none⟩ = some (.int .i64 2)) := (by have h := (Chk.two (.inr hd8)).1; rw [HHX.out.kind] at h; exact h : w8.cell? ⟨g1, 0, none⟩ = some (.int .i64 2))
      have HX8 : Hid (Ex w w8) := Below.grown (HX7.out.trans HXr.out) hg8 (HX7.out.trans HXr.out).size (fun k hk => by simp only [Option.some.injEq] at hk; have h2 := HG1.out; omega)
      have HN8 : Hid (nt = if is = true then m else 0) := (by
        rw [← hnt, HLD.out, HML.out]
        by_cases h : is = true
        · rw [if_pos h, if_pos h]
        · rw [if_neg h, if_neg h]; rfl : nt = if is = true then m else 0)
      clear hd8 ho8 hg8 hlt8 hb8 hnt
      go_wp2_with fail
      refine (dict2_is g2 by' _ w8 HD8.out HOk2.out false HrY.out).mono ?_
      rintro e9 w9 ⟨v9, rfl, hdc⟩
      obtain ⟨fp9, hd9, _, ho9, _, hg9⟩ := hdc
      obtain ⟨aN, cN, rfl, _⟩ := ho9.rd
      have hG1 := HG1.out
      have hG2 := HG2.out
      have HT9 : Hid (Rd st w9 at8 ct8 (LD bx)) := rd_far HT8.out hg9 (fun _ q off e h => by simp only [Option.some.injEq] at h; have h1 := HTLt.out q off e; omega)
      have HS9 : Hid (Rd st w9 a9 c9 S) := rd_far HS8.out hg9 (fun _ q off e h => by simp only [Option.some.injEq] at h; have h1 := HLt.out q off e; omega)
      have HK9 : Hid (w9.cell? ⟨g1, 0, none⟩ = some (.int .i64 2)) := World.grownBy.cell hg9 HK8.out (by simp; omega)
      have HL9 : Hid (w9.cell? ⟨g2, 0, none⟩ = some (.int .i64 1)) := (by have h := (Chk.two (.inr hd9)).1; rw [HHY.out.kind] at h; exact h : w9.cell? ⟨g2, 0, none⟩ = some (.int .i64 1))
      have HX9 : Hid (Ex w w9) := Below.grown HX8.out hg9 HX8.out.size (fun k hk => by simp only [Option.some.injEq] at hk; have := HX6.out.size; omega)
      have hntm : nt ≤ m := by rw [HN8.out]; split <;> omega
      clear hd9 ho9 hg9 hG1 hG2
      go_upto_region 22 with fail
      go_cut [142] (fun v wx => v = .bool false ∧ wx = w9)
      case first =>
        cases is with
        | true =>
          have h1 : m ≤ 16 := by simpa using HIM.out
          have h2 : nt = m := by have h := HN8.out; rwa [if_pos rfl] at h
          subst h2
          have t1 : (nt : Int) ≤ 16 := by omega
          go_wp2_with fail
          go_meet
          exact ⟨rfl, rfl⟩
        | false =>
          have h1 : ¬ m ≤ 16 := by simpa using HIM.out
          have t1 : ¬ (m : Int) ≤ 16 := by omega
          go_wp2_with fail
          go_meet
          exact ⟨rfl, rfl⟩
      case rest =>
        obtain ⟨rfl, hwx⟩ := hcut
        have hwx' := hwx.symm
        clear hwx
        subst hwx'
        go_wp2_with fail
        go_loopw [23, 24, 25] (fun iv hv kv wr => ∃ i : Nat, i ≤ nt ∧ iv = .int .i64 (i : Int) ∧ Hid (Ex w9 wr)) (fun iv hv kv wr => nt - (intOf iv).toNat)
        case atStart => exact ⟨0, by omega, rfl, Ex.refl _⟩
        case round =>
          obtain ⟨j, hj, rfl, HXj⟩ := hrel
          rename World => wj
          by_cases hjl : j < nt
          · have tj : (j : Int) < (nt : Int) := by omega
            have hjT : j < (LD bx).length := by rw [HNT.out]; exact hjl
            obtain ⟨b3, off3, rfl, e0⟩ := (HT9.out.below HXj.out).at hjT
            obtain ⟨y, hy⟩ : ∃ y, (LD bx)[j] = y := ⟨_, rfl⟩
            rw [hy] at e0
            have HE0 : Hid (wj.cell? ⟨b3, off3 + j, none⟩ = some (.string (str y))) := e0
            have hit : is = true := by
              by_cases h : is = true
              · exact h
              · have := HN8.out; rw [if_neg h] at this; omega
            have hLD : LD bx = T.bld (Ck.txts X) := by have h := HLD.out; rwa [if_pos hit] at h
            have hyS : y ∈ S := by
              rw [HSX.out.2, ← T.mem_bld, ← hLD, ← hy]
              exact List.getElem_mem hjT
            have HYS : Hid (isIn S y m = true) := (isIn_all HM.out).2 hyS
            have HYT : Hid ((LD bx)[j]? = some y) := (by rw [List.getElem?_eq_getElem hjT, hy] : (LD bx)[j]? = some y)
            have HRi : Hid (T.Rise (LD bx)) := (by rw [hLD]; exact T.rise_bld _ : T.Rise (LD bx))
            clear hjT hy e0 hit hLD hyS
            go_wp2_with fail
            go_loopw [24, 25] (fun hv kv wr => ∃ k : Nat, k ≤ m ∧ hv = .bool (isIn S y k) ∧ kv = .int .i64 (k : Int) ∧ Hid (Ex wj wr)) (fun hv kv wr => m - (intOf kv).toNat)
            case atStart => exact ⟨0, by omega, by rw [isIn_0], rfl, Ex.refl _⟩
            case round =>
              obtain ⟨k, hk, rfl, rfl, HXo⟩ := hrel
              have f0 := dcell_ex HE0.out HXo.out
              by_cases hkl : k < m
              · have tk : (k : Int) < (m : Int) := by omega
                have hkS : k < S.length := by rw [HM.out]; exact hkl
                obtain ⟨b2, off2, rfl, f1⟩ := ((HS9.out.below HXj.out).below HXo.out).at hkS
                obtain ⟨x, hx⟩ : ∃ x, S[k] = x := ⟨_, rfl⟩
                rw [hx] at f1
                have hsk : S[k]? = some x := by rw [List.getElem?_eq_getElem hkS, hx]
                obtain ⟨z, hz⟩ : ∃ z, ((str x).toList == (str y).toList) = z := ⟨_, rfl⟩
                have HZ : Hid (isIn S y (k + 1) = (isIn S y k || z)) := (by rw [isIn_succ hsk, hz] : isIn S y (k + 1) = (isIn S y k || z))
                obtain ⟨hb, hhb⟩ : ∃ hb, isIn S y k = hb := ⟨_, rfl⟩
                rw [hhb] at HZ ⊢
                clear hkS hx hsk hhb
                cases hb with
                | true =>
                  go_wp2_with fail
                  go_quiet (fail)
                  go_wp2_with fail
                  go_roundw
                  case rel => exact ⟨k + 1, by omega, by rw [HZ.out]; rfl, by go_num, HXo.out.trans (Ex.drewN _ _)⟩
                  case measure => simp [intOf]; omega
                | false =>
                  go_wp2_with fail
                  go_quiet (fail)
                  go_wp2_with fail
                  go_roundw
                  case rel => exact ⟨k + 1, by omega, by rw [HZ.out]; rfl, by go_num, HXo.out.trans (Ex.drewN _ _)⟩
                  case measure => simp [intOf]; omega
              · obtain rfl : k = m := by omega
                have tk : ¬ (k : Int) < (k : Int) := by omega
                have HX9o : Hid (Ex w9 wr) := HXj.out.trans HXo.out
                rw [HYS.out]
                by_cases hj0 : j = 0
                · subst hj0
                  go_wp2_with fail
                  go_quiet (fail)
                  go_wp2_with fail
                  go_roundw
                  case rel => exact ⟨1, by omega, by go_num, HX9o.out.trans (Ex.drewN _ _)⟩
                  case measure => simp [intOf]; omega
                · obtain ⟨q, rfl⟩ : ∃ q, j = q + 1 := ⟨j - 1, by omega⟩
                  have hqT : q < (LD bx).length := by rw [HNT.out]; omega
                  obtain ⟨b4, off4, hq4, f1⟩ := ((HT9.out.below HXj.out).below HXo.out).at hqT
                  simp only [Option.some.injEq, Addr.mk.injEq, and_true] at hq4
                  obtain ⟨rfl, rfl⟩ := hq4
                  obtain ⟨x, hx⟩ : ∃ x, (LD bx)[q] = x := ⟨_, rfl⟩
                  rw [hx] at f1
                  have hlt2 : Op.bytesLess (str x).toList (str y).toList = true := by
                    rw [str_toList, str_toList]
                    exact T.rise_at HRi.out (by rw [List.getElem?_eq_getElem hqT, hx]) HYT.out (by omega)
                  have hq1 : (q : Int) + 1 - 1 = (q : Int) := by omega
                  have hq2 : (q : Int) < (nt : Int) := by omega
                  have hq3 : (0 : Int) < (q : Int) + 1 := by omega
                  have hq4 : (q : Int) + 1 < (nt : Int) := by omega
                  clear hqT hx hj0
                  go_wp2_with fail
                  go_quiet (fail)
                  go_wp2_with fail
                  go_roundw
                  case rel => exact ⟨q + 1 + 1, by omega, by go_num, HX9o.out.trans (Ex.drewN _ _)⟩
                  case measure => simp [intOf]; omega
          · have tj : ¬ (j : Int) < (nt : Int) := by omega
            go_wp2_with fail
            refine (kind_at g1 2 wj (dcell_ex HK9.out HXj.out)).mono ?_
            rintro ek wk ⟨rfl, rfl⟩
            go_wp2_with fail
            refine (kind_at g2 1 wk (dcell_ex HL9.out HXj.out)).mono ?_
            rintro ek wk2 ⟨rfl, rfl⟩
            go_wp2_with fail
            refine (known_is wk2).mono ?_
            rintro ek wz ⟨rfl, hxk⟩
            go_wp2_with fail
            go_ret
            exact ⟨rfl, (HX9.out.trans HXj.out).trans hxk⟩
end Go.Proofs.YtnmonoafjijfhabGreat.chunkForms
