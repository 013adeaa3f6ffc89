/-
  The document's own Build, Encode, Decode (layer 7) over the program. 's[j:k]' and 's[j:]' of texts and of numbers; a list beside a block that is written. No function of the program here.
-/
import Derived.Test.YtnmonoafjijfhaaGreatM32
import Derived.Test.YtnmonoafjijfhaaGreatM31
import Derived.Test.YtnmonoafjijfhaaGreatM20
namespace Go.Proofs.YtnmonoafjijfhaaGreat
open Go.RowKit
set_option linter.unusedVariables false

theorem Tryz.info3 : (Tryz.prog.info? 3).map (fun i => (i.zero, i.size, i.bytes)) = some (some (.int .i64 0), 1, 8) := by kernel_rfl
def places (D : List (List UInt8)) (l : List (List UInt8)) : List Int := l.map fun s => ((T.place D s : Nat) : Int)
theorem places_len (D l : List (List UInt8)) : (places D l).length = l.length := by simp [places]
theorem take_snoc {α : Type} {l : List α} {k : Nat} (h : k < l.length) : l.take (k + 1) = l.take k ++ [l[k]] := List.take_succ_eq_append_getElem h
theorem places_snoc (D l : List (List UInt8)) (s : List UInt8) : places D (l ++ [s]) = places D l ++ [((T.place D s : Nat) : Int)] := by simp [places]

set_option maxRecDepth 100000 in
set_option maxHeartbeats 1000000 in
theorem rbuild_is (a : Option Addr) (n cap : Nat) (l : List (List UInt8)) (w : World) (hn : n = l.length) (hB : Rd st w a cap l) (hl : l.length ≤ 70000) (D : List (List UInt8)) (hD : T.bld l = D) (P : List Int) (hP : places D l = P) :
    Calls Tryz.prog 37 #[.slice a n cap] w fun e w' => ∃ v u, e = .returned (.tuple #[v, u]) ∧ IsRd st D v w' ∧ IsRd z64 P u w' ∧ Ex w w' := by
  subst hn
  have HB : Hid (Rd st w a cap l) := hB
  have HD : Hid (T.bld l = D) := hD
  have HP : Hid (places D l = P) := hP
  have hcl := hB.1
  have hcm := hB.2.1
  unfold maxLen at hcm
  have h0 : Hid (IsRd st (T.bld (l.take 0)) (.slice none 0 0) w) := IsRd.nil w
  clear hB hD hP
  go_enter Tryz.func37, Tryz.ntmps37
  go_wp2_with fail
  go_loopw [4, 5] (fun v i wr => ∃ k : Nat, k ≤ l.length ∧ i = .int .i64 k ∧ Hid (IsRd st (T.bld (l.take k)) v wr) ∧ Hid (Ex w wr)) (fun _ i _ => l.length - (intOf i).toNat)
  case atStart => exact ⟨0, by omega, rfl, h0, Ex.refl _⟩
  case round =>
    obtain ⟨k, hk, rfl, HV, HEx⟩ := hrel
    clear h0
    by_cases hlt : k < l.length
    · obtain ⟨b, off, rfl, hc⟩ := (HB.out.below HEx.out).at hlt
      obtain ⟨x, hx⟩ : ∃ x, x = l[k] := ⟨_, rfl⟩
      rw [← hx] at hc
      have hc' : wr.cell? ⟨b, off + k, none⟩ = some (.string (str x)) := hc
      have hki : (k : Int) < (l.length : Int) := by omega
      have tk : decide ((k : Int) < (l.length : Int)) = true := by simp; omega
      have hbl := T.bld_len (l.take k)
      have hbl2 : (T.bld (l.take k)).length ≤ 70000 := by
        have : (l.take k).length ≤ k := by simp; omega
        omega
      have HN : Hid (T.ins x (T.bld (l.take k)) = T.bld (l.take (k + 1))) := (by rw [take_snoc hlt, T.bld_snoc, hx] : T.ins x (T.bld (l.take k)) = T.bld (l.take (k + 1)))
      obtain ⟨a4, c4, hv4, hb4⟩ := HV.out
      subst hv4
      have HB4 : Hid (Rd st wr a4 c4 (T.bld (l.take k))) := hb4
      clear hc hx hb4 HV hbl
      go_wp2_with fail
      refine (rput7_is a4 _ c4 (T.bld (l.take k)) x _ rfl HB4.out (by omega) _ HN.out).mono ?_
      rintro e w1 ⟨v1, rfl, hv1, hx1⟩
      have HV1 : Hid (IsRd st (T.bld (l.take (k + 1))) v1 w1) := hv1
      have HE1 : Hid (Ex w w1) := HEx.out.trans hx1
      clear hv1 hx1
      go_wp2
      go_roundw
      case rel => exact ⟨k + 1, by omega, by go_num, HV1, HE1⟩
      case measure => simp [intOf]; omega
    · obtain rfl : k = l.length := by omega
      have tk : decide ((l.length : Int) < (l.length : Int)) = false := by simp
      have hv := HV.out
      rw [List.take_length, HD.out] at hv
      obtain ⟨a4, c4, hv4, hb4⟩ := hv
      subst hv4
      obtain ⟨w2, hw2⟩ : ∃ w2, w2 = wr := ⟨_, rfl⟩
      have HB4 : Hid (Rd st w2 a4 c4 D) := (by rw [hw2]; exact hb4 : Rd st w2 a4 c4 D)
      have HE2 : Hid (Ex w w2) := (by rw [hw2]; exact HEx.out : Ex w w2)
      have hO0 : Hid (OwnR 3 z64 w2 w2.heap.size (.slice none 0 0) (places D (l.take 0))) := (⟨by simp [places], .inl ⟨rfl, rfl⟩⟩ : OwnR 3 z64 w2 w2.heap.size (.slice none 0 0) (places D (l.take 0)))
      have hB0 : Hid (Ex w2 w2) := Ex.refl _
      rw [← hw2]
      clear HV hb4 HEx hw2
      go_wp2_with fail
      go_loopw [6, 7] (fun v i wr => ∃ k : Nat, k ≤ l.length ∧ i = .int .i64 k ∧ Hid (OwnR 3 z64 wr w2.heap.size v (places D (l.take k))) ∧ Hid (Ex w2 wr)) (fun _ i _ => l.length - (intOf i).toNat)
      case atStart => exact ⟨0, by omega, rfl, hO0, hB0⟩
      case round =>
        obtain ⟨k, hk, rfl, HV, HEx⟩ := hrel
        clear hO0 hB0
        have hsz : w2.heap.size ≤ wr.heap.size := HEx.out.size
        by_cases hlt : k < l.length
        · obtain ⟨b, off, rfl, hc⟩ := ((HB.out.below HE2.out).below HEx.out).at hlt
          obtain ⟨x, hx⟩ : ∃ x, x = l[k] := ⟨_, rfl⟩
          rw [← hx] at hc
          have hc' : wr.cell? ⟨b, off + k, none⟩ = some (.string (str x)) := hc
          have hki : (k : Int) < (l.length : Int) := by omega
          have tk : decide ((k : Int) < (l.length : Int)) = true := by simp; omega
          obtain ⟨r, hr⟩ : ∃ r, T.idx x D = r := ⟨_, rfl⟩
          obtain ⟨p, hp⟩ : ∃ p, r.getD 0 = p := ⟨_, rfl⟩
          have hpl : T.place D x = p := by rw [T.place, hr, hp]
          have HI : Hid (T.idx x D = r) := hr
          have HN : Hid (places D (l.take (k + 1)) = places D (l.take k) ++ [(p : Int)]) := (by rw [take_snoc hlt, places_snoc, ← hx, hpl] : places D (l.take (k + 1)) = places D (l.take k) ++ [(p : Int)])
          have HPp : Hid (r.getD 0 = p) := hp
          have hplen : (places D (l.take k)).length ≤ 70000 := by rw [places_len]; simp; omega
          clear hc hx hr hp hpl
          go_wp2_with fail
          refine (rfind_is a4 _ c4 D x _ rfl (HB4.out.below HEx.out) r HI.out).mono ?_
          rintro e wq ⟨rfl, hw⟩
          have hw' := hw.symm; clear hw; subst hw'
          rw [HPp.out]
          have hov := HV.out
          go_wp2_with (at_builtin; refine wpList_append_rd (e := 3) (enc := z64) rfl (.tmp 37) (.tmp 39) 62 rfl 0 8 Tryz.underlying62 Tryz.info3 rfl (fun _ => rfl) w2.heap.size _ (places D (l.take k)) rfl (hov.alloc _) _ _ _ [(p : Int)] rfl rfl (Rd.laid wr 3 [(p : Int)] (by simp)) (by simp [maxLen]; omega) (by simp; omega) (by simp; omega) ?_; intro v9 w9 ho9 hg9; have X9 : Ex w2 w9 := step_belowR (Below.alloc HEx.out hsz _) (by simp; omega) (hov.alloc _) hg9; clear hg9)
          have HO9 : Hid (OwnR 3 z64 w9 w2.heap.size v9 (places D (l.take (k + 1)))) := (by rw [HN.out]; exact ho9 : OwnR 3 z64 w9 w2.heap.size v9 (places D (l.take (k + 1))))
          have HX9 : Hid (Ex w2 w9) := X9
          clear ho9 X9 hov
          go_wp2
          go_roundw
          case rel => exact ⟨k + 1, by omega, by go_num, HO9, HX9⟩
          case measure => simp [intOf]; omega
        · obtain rfl : k = l.length := by omega
          have hv := HV.out
          rw [List.take_length, HP.out] at hv
          obtain ⟨a6, c6, hv6, hb6⟩ := hv.rd
          subst hv6
          have HB6 : Hid (Rd z64 wr a6 c6 P) := hb6
          clear HV hv hb6
          go_wp2
          go_ret2
          exact ⟨_, _, rfl, ⟨a4, c4, rfl, HB4.out.below HEx.out⟩, ⟨a6, c6, rfl, HB6.out⟩, HE2.out.trans HEx.out⟩

set_option maxRecDepth 100000 in
set_option maxHeartbeats 1000000 in
theorem rencode_is (a : Option Addr) (n cap : Nat) (d : List (List UInt8)) (w : World) (hn : n = d.length) (hB : Rd st w a cap d) (hd : ∀ x ∈ d, x.length ≤ maxLen) (r : List UInt8) (e0 : Nat) (hr : (if T.fits d = true then (T.enc d, 0) else ([], 12)) = (r, e0)) :
    Calls Tryz.prog 41 #[.slice a n cap] w fun e w' => ∃ v, e = .returned (.tuple #[v, .int .i64 e0]) ∧ Own w' w.heap.size v r ∧ Ex w w' := by
  subst hn
  obtain ⟨base, hbase⟩ : ∃ base, base = w.heap.size := ⟨_, rfl⟩
  have HBa : Hid (base = w.heap.size) := hbase
  rw [← hbase]
  have HB : Hid (Rd st w a cap d) := hB
  have HD : Hid (∀ x ∈ d, x.length ≤ maxLen) := hd
  have hcl := hB.1
  have hcm := hB.2.1
  unfold maxLen at hcm
  clear hB hd hbase
  cases hf : T.fits d with
  | false =>
    rw [hf, if_neg (by simp)] at hr
    simp only [Prod.mk.injEq] at hr
    obtain ⟨rfl, rfl⟩ := hr
    have HF : Hid (T.fits d = false) := hf
    clear hf
    go_enter Tryz.func41, Tryz.ntmps41
    go_wp2_with fail
    refine (rfits_is a _ cap d _ rfl HB.out HD.out false HF.out).mono ?_
    rintro e w1 ⟨rfl, hx1⟩
    go_wp2
    go_ret2
    exact ⟨_, rfl, ⟨by simp [cs], .inl ⟨rfl, rfl⟩⟩, hx1⟩
  | true =>
    rw [hf, if_pos rfl] at hr
    simp only [Prod.mk.injEq] at hr
    obtain ⟨hE, rfl⟩ := hr
    have hf3 := (T.fits_iff d).1 hf
    have hd16 := hf3.2.1
    have h40 : ∀ x ∈ d, x.length ≤ 40 := hf3.1
    have H40 : Hid (∀ x ∈ d, x.length ≤ 40) := h40
    have HE : Hid (T.enc d = r) := hE
    have HF : Hid (T.fits d = true) := hf
    clear hf hf3 h40 hE
    go_enter Tryz.func41, Tryz.ntmps41
    go_wp2_with fail
    refine (rfits_is a _ cap d _ rfl HB.out HD.out true HF.out).mono ?_
    rintro e w1 ⟨rfl, hx1⟩
    go_wp2_with fail
    refine (rput_is none 0 0 [] (M.digs d.length) _ d.length _ (by first | rfl | omega) (by simp) (Byt.nil _) rfl (by omega) (by simp)).mono ?_
    rintro e w2 ⟨v2, rfl, ho2, hx2⟩
    have HO2 : Hid (Own w2 base v2 (M.digs d.length ++ T.texts (d.take 0))) := (by
      have h := ho2.mono (show base ≤ w1.heap.size by rw [HBa.out]; exact hx1.size)
      simpa [T.texts] using h : Own w2 base v2 (M.digs d.length ++ T.texts (d.take 0)))
    have HX2 : Hid (Ex w w2) := hx1.trans hx2
    clear ho2 hx1 hx2
    go_wp2_with fail
    go_loopw [4, 5] (fun v i wr => ∃ k : Nat, k ≤ d.length ∧ i = .int .i64 k ∧ Hid (Own wr base v (M.digs d.length ++ T.texts (d.take k))) ∧ Hid (Ex w wr)) (fun _ i _ => d.length - (intOf i).toNat)
    case atStart => exact ⟨0, by omega, rfl, HO2, HX2⟩
    case round =>
      obtain ⟨k, hk, rfl, HO, HEx⟩ := hrel
      clear HO2 HX2
      by_cases hlt : k < d.length
      · obtain ⟨b, off, rfl, hc⟩ := (HB.out.below HEx.out).at hlt
        obtain ⟨x, hx⟩ : ∃ x, x = d[k] := ⟨_, rfl⟩
        rw [← hx] at hc
        have hc' : wr.cell? ⟨b, off + k, none⟩ = some (.string (str x)) := hc
        have hx40 : x.length ≤ 40 := by rw [hx]; exact H40.out _ (List.getElem_mem hlt)
        have hki : (k : Int) < (d.length : Int) := by omega
        have tk : decide ((k : Int) < (d.length : Int)) = true := by simp; omega
        obtain ⟨E, hE⟩ : ∃ E, E = M.digs d.length ++ T.texts (d.take k) := ⟨_, rfl⟩
        obtain ⟨E2, hE2⟩ : ∃ E2, E2 = M.digs d.length ++ T.texts (d.take (k + 1)) := ⟨_, rfl⟩
        have hEE : E ++ M.digs x.length ++ x = E2 := by rw [hE, hE2, take_snoc hlt, T.texts_snoc, ← hx, T.ptext]; simp
        have hEl : E.length ≤ 2000 := by
          have h1 := M.digs_len d.length
          have h2 := T.texts_len (d.take k) (fun s hs => by have := H40.out s (List.mem_of_mem_take hs); omega)
          have h3 : (d.take k).length ≤ 16 := by simp; omega
          rw [hE]; simp only [List.length_append]; omega
        have ho := HO.out
        rw [← hE] at ho
        obtain ⟨a4, c4, hv4, hb4⟩ := ho.byt
        subst hv4
        have HB4 : Hid (Byt wr a4 c4 E) := hb4
        have HEE : Hid (E ++ M.digs x.length ++ x = E2) := hEE
        have HE2 : Hid (E2 = M.digs d.length ++ T.texts (d.take (k + 1))) := hE2
        have HSz : Hid (base ≤ wr.heap.size) := (by rw [HBa.out]; exact HEx.out.size : base ≤ wr.heap.size)
        clear hc hx hE hE2 hEE ho hb4 HO
        go_wp2_with fail
        refine (rputText_any a4 c4 E x E2 _ HB4.out HEE.out (by omega)).mono ?_
        rintro e w5 ⟨v5, rfl, ho5, hx5⟩
        have HO5 : Hid (Own w5 base v5 (M.digs d.length ++ T.texts (d.take (k + 1)))) := (by rw [← HE2.out]; exact ho5.mono HSz.out : Own w5 base v5 (M.digs d.length ++ T.texts (d.take (k + 1))))
        have HX5 : Hid (Ex w w5) := HEx.out.trans hx5
        clear ho5 hx5
        go_wp2
        go_roundw
        case rel => exact ⟨k + 1, by omega, by go_num, HO5, HX5⟩
        case measure => simp [intOf]; omega
      · obtain rfl : k = d.length := by omega
        have ho := HO.out
        rw [List.take_length, show M.digs d.length ++ T.texts d = r from HE.out] at ho
        have HF2 : Hid (Own wr base u4 r) := ho
        clear HO ho
        go_wp2
        go_ret2
        exact ⟨_, rfl, HF2.out, HEx.out⟩
end Go.Proofs.YtnmonoafjijfhaaGreat
namespace Go.Proofs.YtnmonoafjijfhaaGreat
open Go.RowKit
set_option linter.unusedVariables false

section
variable {α : Type} {enc : α → Value}
theorem Rd.farB {w w' : World} {a : Option Addr} {cap : Nat} {l : List α} {g : Nat} (h : Rd enc w a cap l) (hg : w.grownBy w' (some g)) (hne : a.map (·.block) ≠ some g) : Rd enc w' a cap l := by
  obtain ⟨h1, h2, h3, h4⟩ := h
  refine ⟨h1, h2, h3, fun i y hi => ?_⟩
  obtain ⟨q, off, e, hc⟩ := h4 i y hi
  refine ⟨q, off, e, ?_⟩
  rw [hg.cell_far ⟨q, off + i, none⟩ (World.block_lt_of_cell? w _ hc) (by rw [e] at hne; simpa using hne)]
  exact hc
/-- The block of what is cut out is the block of what it is cut from. -/
def Within (a' a : Option Addr) : Prop := a'.map (·.block) = a.map (·.block)
theorem within_add (a : Option Addr) (j : Nat) : Within (Option.map (fun x => x.add j) a) a := by
  unfold Within
  cases a with
  | none => rfl
  | some x =>
    simp only [Option.map_some, Addr.add]
    split <;> rfl
theorem within_same (a : Option Addr) : Within a a := rfl
/-- What cutting gives, in every world. -/
def Cut (t : TypeId) (enc : α → Value) (a : Option Addr) (n cap j k : Nat) (hi : Option Value) (a' : Option Addr) : Prop :=
  (∀ w, (Instr.sliceAt t (.slice a n cap) (some (.int .i64 j)) hi none).run Tryz.prog w = .ok (.slice a' (k - j) (cap - j)) w) ∧
  (∀ (w : World) (l : List α), l.length = n → Rd enc w a cap l → Rd enc w a' (cap - j) ((l.drop j).take (k - j))) ∧ Within a' a
theorem cut_of {t : TypeId} {a : Option Addr} {n cap j k : Nat} {hi : Option Value} (hj : j ≤ k) (hk : k ≤ n) (hn : n ≤ cap)
    (r0 : cap = j → ∀ w, (Instr.sliceAt t (.slice a n cap) (some (.int .i64 j)) hi none).run Tryz.prog w = .ok (.slice a (k - j) (cap - j)) w)
    (r1 : cap ≠ j → ∀ w, (Instr.sliceAt t (.slice a n cap) (some (.int .i64 j)) hi none).run Tryz.prog w = .ok (.slice (Option.map (fun x => x.add j) a) (k - j) (cap - j)) w) : ∃ a', Cut t enc a n cap j k hi a' := by
  by_cases h : cap = j
  · refine ⟨a, r0 h, fun w l hl hr => ?_, within_same a⟩
    have e : (l.drop j).take (k - j) = [] := by
      apply List.eq_nil_of_length_eq_zero
      simp; omega
    rw [e, h, Nat.sub_self]
    exact Rd.none_d w a
  · exact ⟨_, r1 h, fun w l hl hr => hr.sub j (k - j) (by omega), within_add a j⟩
end
theorem cut22 (a : Option Addr) (n cap j k : Nat) (hj : j ≤ k) (hk : k ≤ n) (hn : n ≤ cap) (hc : cap ≤ maxLen) : ∃ a', Cut 35 st a n cap j k (some (.int .i64 k)) a' := by
  unfold maxLen at hc
  have i0 : (j : Int) ≤ (k : Int) := by omega
  have i1 : (k : Int) ≤ (cap : Int) := by omega
  have i3 : cap ≤ 9223372036854775807 := by omega
  refine cut_of hj hk hn (fun h w => ?_) (fun h w => ?_)
  · have hkc : k = j := by omega
    subst h
    subst hkc
    go_simp
  · have hne : ¬ cap - j = 0 := by omega
    go_simp
namespace Rg
theorem good_cut3 {P : Program} {ops : Array Oper} {specs : List Spec} {a0 : Act} {C : World → Prop} {E : World → World → Prop} {o : Oper} {t : TypeId} {x lo hi : Operand} {vx vl vh v : Value} (hrefl : ∀ w, E w w) (ho : o.op = .slice t x (some lo) (some hi) none) (hg : guardV ops specs a0 o = some true) (hx : argS ops specs a0 x = .inl vx) (hl : argS ops specs a0 lo = .inl vl) (hh : argS ops specs a0 hi = .inl vh)
    (h : ∀ w, (Instr.sliceAt t vx (some vl) (some vh) none).run P w = .ok v w) : GoodOp P ops specs a0 C E o (.inl v) :=
  good_val hrefl hg fun a w hC hs => by
    have h1 := hs x (by rw [ho]; simp [Op.operands])
    rw [hx] at h1
    have h3 := hs hi (by rw [ho]; simp [Op.operands])
    rw [hh] at h3
    have h4 := hs lo (by rw [ho]; simp [Op.operands])
    rw [hl] at h4
    simp only [Spec.ok] at h1 h3 h4
    refine ⟨v, ?_, rfl⟩
    unfold execOp
    rw [ho]
    simp only [Option.map_some, Option.map_none, h1, h3, h4, Sem.run_bind, Result.andThen, h w, Sem.run_pure]
end Rg
end Go.Proofs.YtnmonoafjijfhaaGreat
