/-
  The document's own Build, Encode, Decode (layer 7) over the program.
-/
import Derived.Test.YtadcbefgleiijaaRins
namespace Go.Proofs.Ytadcbefgleiijaa
open Go.RowKit
set_option linter.unusedVariables false

theorem Try.info3 : (Try.prog.info? 3).map (fun i => (i.zero, i.size, i.bytes)) = some (some (.int .i64 0), 1, 8) := by kernel_rfl
def places (D : List (List UInt8)) (l : List (List UInt8)) : List Int := l.map fun s => ((T.place D s : Nat) : Int)
theorem places_len (D l : List (List UInt8)) : (places D l).length = l.length := by simp [places]
theorem take_snoc {α : Type} {l : List α} {k : Nat} (h : k < l.length) : l.take (k + 1) = l.take k ++ [l[k]] := List.take_succ_eq_append_getElem h
theorem places_snoc (D l : List (List UInt8)) (s : List UInt8) : places D (l ++ [s]) = places D l ++ [((T.place D s : Nat) : Int)] := by simp [places]

set_option maxRecDepth 100000 in
set_option maxHeartbeats 1000000 in
theorem rbuild_is (a : Option Addr) (n cap : Nat) (l : List (List UInt8)) (w : World) (hn : n = l.length) (hB : Rd st w a cap l) (hl : l.length ≤ 500) (D : List (List UInt8)) (hD : T.bld l = D) (P : List Int) (hP : places D l = P) :
    Calls Try.prog 27 #[.slice a n cap] w fun e w' => ∃ v u, e = .returned (.tuple #[v, u]) ∧ IsRd st D v w' ∧ IsRd z64 P u w' ∧ Ex w w' := by
  subst hn
  have HB : Hid (Rd st w a cap l) := hB
  have HD : Hid (T.bld l = D) := hD
  have HP : Hid (places D l = P) := hP
  have hcl := hB.1
  have hcm := hB.2.1
  unfold maxLen at hcm
  have h0 : Hid (IsRd st (T.bld (l.take 0)) (.slice none 0 0) w) := IsRd.nil w
  clear hB hD hP
  go_enter Try.func27, Try.ntmps27
  go_wp2_with fail
  go_loopw [4, 5] (fun v i wr => ∃ k : Nat, k ≤ l.length ∧ i = .int .i64 k ∧ Hid (IsRd st (T.bld (l.take k)) v wr) ∧ Hid (Ex w wr)) (fun _ i _ => l.length - (intOf i).toNat)
  case atStart => exact ⟨0, by omega, rfl, h0, Ex.refl _⟩
  case round =>
    obtain ⟨k, hk, rfl, HV, HEx⟩ := hrel
    clear h0
    by_cases hlt : k < l.length
    · obtain ⟨b, off, rfl, hc⟩ := (HB.out.below HEx.out).at hlt
      obtain ⟨x, hx⟩ : ∃ x, x = l[k] := ⟨_, rfl⟩
      rw [← hx] at hc
      have hc' : wr.cell? ⟨b, off + k, none⟩ = some (.string (str x)) := hc
      have hki : (k : Int) < (l.length : Int) := by omega
      have tk : decide ((k : Int) < (l.length : Int)) = true := by simp; omega
      have hbl := T.bld_len (l.take k)
      have hbl2 : (T.bld (l.take k)).length ≤ 500 := by
        have : (l.take k).length ≤ k := by simp; omega
        omega
      have HN : Hid (T.ins x (T.bld (l.take k)) = T.bld (l.take (k + 1))) := (by rw [take_snoc hlt, T.bld_snoc, hx] : T.ins x (T.bld (l.take k)) = T.bld (l.take (k + 1)))
      obtain ⟨a4, c4, hv4, hb4⟩ := HV.out
      subst hv4
      have HB4 : Hid (Rd st wr a4 c4 (T.bld (l.take k))) := hb4
      clear hc hx hb4 HV hbl
      go_wp2_with fail
      refine (rput7_is a4 _ c4 (T.bld (l.take k)) x _ rfl HB4.out (by omega) _ HN.out).mono ?_
      rintro e w1 ⟨v1, rfl, hv1, hx1⟩
      have HV1 : Hid (IsRd st (T.bld (l.take (k + 1))) v1 w1) := hv1
      have HE1 : Hid (Ex w w1) := HEx.out.trans hx1
      clear hv1 hx1
      go_wp2
      go_roundw
      case rel => exact ⟨k + 1, by omega, by go_num, HV1, HE1⟩
      case measure => simp [intOf]; omega
    · obtain rfl : k = l.length := by omega
      have tk : decide ((l.length : Int) < (l.length : Int)) = false := by simp
      have hv := HV.out
      rw [List.take_length, HD.out] at hv
      obtain ⟨a4, c4, hv4, hb4⟩ := hv
      subst hv4
      obtain ⟨w2, hw2⟩ : ∃ w2, w2 = wr := ⟨_, rfl⟩
      have HB4 : Hid (Rd st w2 a4 c4 D) := (by rw [hw2]; exact hb4 : Rd st w2 a4 c4 D)
      have HE2 : Hid (Ex w w2) := (by rw [hw2]; exact HEx.out : Ex w w2)
      have hO0 : Hid (OwnR 3 z64 w2 w2.heap.size (.slice none 0 0) (places D (l.take 0))) := (⟨by simp [places], .inl ⟨rfl, rfl⟩⟩ : OwnR 3 z64 w2 w2.heap.size (.slice none 0 0) (places D (l.take 0)))
      have hB0 : Hid (Ex w2 w2) := Ex.refl _
      rw [← hw2]
      clear HV hb4 HEx hw2
      go_wp2_with fail
      go_loopw [6, 7] (fun v i wr => ∃ k : Nat, k ≤ l.length ∧ i = .int .i64 k ∧ Hid (OwnR 3 z64 wr w2.heap.size v (places D (l.take k))) ∧ Hid (Ex w2 wr)) (fun _ i _ => l.length - (intOf i).toNat)
      case atStart => exact ⟨0, by omega, rfl, hO0, hB0⟩
      case round =>
        obtain ⟨k, hk, rfl, HV, HEx⟩ := hrel
        clear hO0 hB0
        have hsz : w2.heap.size ≤ wr.heap.size := HEx.out.size
        by_cases hlt : k < l.length
        · obtain ⟨b, off, rfl, hc⟩ := ((HB.out.below HE2.out).below HEx.out).at hlt
          obtain ⟨x, hx⟩ : ∃ x, x = l[k] := ⟨_, rfl⟩
          rw [← hx] at hc
          have hc' : wr.cell? ⟨b, off + k, none⟩ = some (.string (str x)) := hc
          have hki : (k : Int) < (l.length : Int) := by omega
          have tk : decide ((k : Int) < (l.length : Int)) = true := by simp; omega
          obtain ⟨r, hr⟩ : ∃ r, T.idx x D = r := ⟨_, rfl⟩
          obtain ⟨p, hp⟩ : ∃ p, r.getD 0 = p := ⟨_, rfl⟩
          have hpl : T.place D x = p := by rw [T.place, hr, hp]
          have HI : Hid (T.idx x D = r) := hr
          have HN : Hid (places D (l.take (k + 1)) = places D (l.take k) ++ [(p : Int)]) := (by rw [take_snoc hlt, places_snoc, ← hx, hpl] : places D (l.take (k + 1)) = places D (l.take k) ++ [(p : Int)])
          have HPp : Hid (r.getD 0 = p) := hp
          have hplen : (places D (l.take k)).length ≤ 500 := by rw [places_len]; simp; omega
          clear hc hx hr hp hpl
          go_wp2_with fail
          refine (rfind_is a4 _ c4 D x _ rfl (HB4.out.below HEx.out) r HI.out).mono ?_
          rintro e wq ⟨rfl, hw⟩
          have hw' := hw.symm; clear hw; subst hw'
          rw [HPp.out]
          have hov := HV.out
          go_wp2_with (at_builtin; refine wpList_append_rd (e := 3) (enc := z64) rfl (.tmp 37) (.tmp 39) 60 rfl 0 8 Try.underlying60 Try.info3 rfl (fun _ => rfl) w2.heap.size _ (places D (l.take k)) rfl (hov.alloc _) _ _ _ [(p : Int)] rfl rfl (Rd.laid wr 3 [(p : Int)] (by simp)) (by simp [maxLen]; omega) (by simp; omega) (by simp; omega) ?_; intro v9 w9 ho9 hg9; have X9 : Ex w2 w9 := step_belowR (Below.alloc HEx.out hsz _) (by simp; omega) (hov.alloc _) hg9; clear hg9)
          have HO9 : Hid (OwnR 3 z64 w9 w2.heap.size v9 (places D (l.take (k + 1)))) := (by rw [HN.out]; exact ho9 : OwnR 3 z64 w9 w2.heap.size v9 (places D (l.take (k + 1))))
          have HX9 : Hid (Ex w2 w9) := X9
          clear ho9 X9 hov
          go_wp2
          go_roundw
          case rel => exact ⟨k + 1, by omega, by go_num, HO9, HX9⟩
          case measure => simp [intOf]; omega
        · obtain rfl : k = l.length := by omega
          have hv := HV.out
          rw [List.take_length, HP.out] at hv
          obtain ⟨a6, c6, hv6, hb6⟩ := hv.rd
          subst hv6
          have HB6 : Hid (Rd z64 wr a6 c6 P) := hb6
          clear HV hv hb6
          go_wp2
          go_ret2
          exact ⟨_, _, rfl, ⟨a4, c4, rfl, HB4.out.below HEx.out⟩, ⟨a6, c6, rfl, HB6.out⟩, HE2.out.trans HEx.out⟩

end Go.Proofs.Ytadcbefgleiijaa
