/-
  The document's own Merge (layer 7) over the program.
-/
import Derived.Test.YtmnhoofjijiibaaRdecode
import Derived.Test.YtmnhoofjijiibaaNest
namespace Go.Proofs.Ytmnhoofjijiibaa
open Go.RowKit
set_option linter.unusedVariables false

theorem Try.info25 : (Try.prog.info? 25).map (fun i => (i.zero, i.size, i.bytes)) = some (some (.slice none 0 0), 1, 24) := by kernel_rfl
def flat (L : List (List (List UInt8))) : List (List UInt8) := L.flatten
theorem flat_snoc (L : List (List (List UInt8))) (l : List (List UInt8)) : flat (L ++ [l]) = flat L ++ l := by simp [flat]
theorem flat_take_le (L : List (List (List UInt8))) (k : Nat) : (flat (L.take k)).length ≤ (flat L).length := by
  have h : flat L = flat (L.take k) ++ flat (L.drop k) := by unfold flat; rw [← List.flatten_append, List.take_append_drop]
  rw [h, List.length_append]; omega

set_option maxRecDepth 100000 in
set_option maxHeartbeats 2000000 in
theorem rmerge_is (a : Option Addr) (n cap : Nat) (L : List (List (List UInt8))) (w : World) (hn : n = L.length) (hB : RdN st w a cap L) (hl : (flat L).length ≤ 500) (hL : L.length ≤ 100) (D : List (List UInt8)) (hD : T.bld (flat L) = D) (P : List (List Int)) (hP : L.map (places D) = P) :
    Calls Try.prog 16 #[.slice a n cap] w fun e w' => ∃ v u, e = .returned (.tuple #[v, u]) ∧ IsRd st D v w' ∧ IsRdN z64 P u w' ∧ Ex w w' := by
  subst hn
  have HB : Hid (RdN st w a cap L) := hB
  have HD : Hid (T.bld (flat L) = D) := hD
  have HP : Hid (L.map (places D) = P) := hP
  have hbb := hB.bounds
  have hcl := hbb.1
  have hcm := hbb.2
  unfold maxLen at hcm
  have h0 : Hid (IsRd st (T.bld (flat (L.take 0))) (.slice none 0 0) w) := IsRd.nil w
  clear hB hD hP hbb
  go_enter Try.func16, Try.ntmps16
  go_wp2_with fail
  go_loopw [4, 5] (fun v i wr => ∃ k : Nat, k ≤ L.length ∧ i = .int .i64 k ∧ Hid (IsRd st (T.bld (flat (L.take k))) v wr) ∧ Hid (Ex w wr)) (fun _ i _ => L.length - (intOf i).toNat)
  case atStart => exact ⟨0, by omega, rfl, h0, Ex.refl _⟩
  case round =>
    obtain ⟨k, hk, rfl, HV, HEx⟩ := hrel
    clear h0
    by_cases hlt : k < L.length
    · have hki : (k : Int) < (L.length : Int) := by omega
      have tk : decide ((k : Int) < (L.length : Int)) = true := by simp; omega
      obtain ⟨M, hM⟩ : ∃ M, M = L[k] := ⟨_, rfl⟩
      have hflat : flat (L.take (k + 1)) = flat (L.take k) ++ M := by rw [take_snoc hlt, flat_snoc, hM]
      have hfl := flat_take_le L (k + 1)
      rw [hflat, List.length_append] at hfl
      have HFl : Hid (flat (L.take (k + 1)) = flat (L.take k) ++ M) := hflat
      obtain ⟨w1, hw1⟩ : ∃ w1, w1 = wr := ⟨_, rfl⟩
      obtain ⟨b, off, p, c, rfl, hce, hrM⟩ := (HB.out.below HEx.out).at hlt
      rw [← hM] at hce hrM
      have HM : Hid (Rd st w1 p c M) := (by rw [hw1]; exact hrM : Rd st w1 p c M)
      have HC : Hid (w1.cell? ⟨b, off + k, none⟩ = some (.slice p M.length c)) := (by rw [hw1]; exact hce : w1.cell? ⟨b, off + k, none⟩ = some (.slice p M.length c))
      have HE1 : Hid (Ex w w1) := (by rw [hw1]; exact HEx.out : Ex w w1)
      have HV0 : Hid (IsRd st (T.bld (flat (L.take k) ++ M.take 0)) u4 w1) := (by rw [hw1, List.take_zero, List.append_nil]; exact HV.out : IsRd st (T.bld (flat (L.take k) ++ M.take 0)) u4 w1)
      have hpm := hrM.1
      have hpm2 := hrM.2.1
      unfold maxLen at hpm2
      rw [← hw1]
      clear hM hflat hce hrM hw1 HV HEx
      go_wp2_with fail
      go_loopw [4, 6] (fun v i wr => ∃ q : Nat, q ≤ M.length ∧ i = .int .i64 q ∧ Hid (IsRd st (T.bld (flat (L.take k) ++ M.take q)) v wr) ∧ Hid (Ex w1 wr)) (fun _ i _ => M.length - (intOf i).toNat)
      case atStart => exact ⟨0, by omega, rfl, HV0, Ex.refl _⟩
      case round =>
        obtain ⟨q, hq, rfl, HV, HEx⟩ := hrel
        clear HV0
        have hcw := HEx.out.cell (p := ⟨b, off + k, none⟩) (World.block_lt_of_cell? w1 _ HC.out)
        rw [HC.out] at hcw
        by_cases hlq : q < M.length
        · have hqi : (q : Int) < (M.length : Int) := by omega
          have tq : decide ((q : Int) < (M.length : Int)) = true := by simp; omega
          obtain ⟨b2, o2, rfl, hc2⟩ := (HM.out.below HEx.out).at hlq
          obtain ⟨x, hx⟩ : ∃ x, x = M[q] := ⟨_, rfl⟩
          rw [← hx] at hc2
          have hc2' : wr.cell? ⟨b2, o2 + q, none⟩ = some (.string (str x)) := hc2
          have hbl := T.bld_len (flat (L.take k) ++ M.take q)
          have hbl2 : (T.bld (flat (L.take k) ++ M.take q)).length ≤ 500 := by
            simp only [List.length_append, List.length_take] at hbl
            omega
          have HN : Hid (T.ins x (T.bld (flat (L.take k) ++ M.take q)) = T.bld (flat (L.take k) ++ M.take (q + 1))) := (by rw [take_snoc hlq, ← List.append_assoc, T.bld_snoc, hx] : T.ins x (T.bld (flat (L.take k) ++ M.take q)) = T.bld (flat (L.take k) ++ M.take (q + 1)))
          obtain ⟨a4, c4, hv4, hb4⟩ := HV.out
          subst hv4
          have HB4 : Hid (Rd st wr a4 c4 (T.bld (flat (L.take k) ++ M.take q))) := hb4
          clear hc2 hx hb4 HV hbl
          go_wp2_with fail
          refine (rput7_is a4 _ c4 (T.bld (flat (L.take k) ++ M.take q)) x _ rfl HB4.out (by omega) _ HN.out).mono ?_
          rintro e w3 ⟨v3, rfl, hv3, hx3⟩
          have HV3 : Hid (IsRd st (T.bld (flat (L.take k) ++ M.take (q + 1))) v3 w3) := hv3
          have HE3 : Hid (Ex w1 w3) := HEx.out.trans hx3
          clear hv3 hx3
          go_wp2
          go_roundw
          case rel => exact ⟨q + 1, by omega, by go_num, HV3, HE3⟩
          case measure => simp [intOf]; omega
        · obtain rfl : q = M.length := by omega
          have tq : decide ((M.length : Int) < (M.length : Int)) = false := by simp
          have HVn : Hid (IsRd st (T.bld (flat (L.take (k + 1)))) u4 wr) := (by rw [HFl.out]; have := HV.out; rw [List.take_length] at this; exact this : IsRd st (T.bld (flat (L.take (k + 1)))) u4 wr)
          have HEn : Hid (Ex w wr) := HE1.out.trans HEx.out
          clear HV
          go_wp2
          go_roundw
          case rel => exact ⟨k + 1, by omega, by go_num, HVn, HEn⟩
          case measure => simp [intOf]; omega
    · obtain rfl : k = L.length := by omega
      have tk : decide ((L.length : Int) < (L.length : Int)) = false := by simp
      have hv := HV.out
      rw [List.take_length, HD.out] at hv
      obtain ⟨a4, c4, hv4, hb4⟩ := hv
      subst hv4
      obtain ⟨w2, hw2⟩ : ∃ w2, w2 = wr := ⟨_, rfl⟩
      have HB4 : Hid (Rd st w2 a4 c4 D) := (by rw [hw2]; exact hb4 : Rd st w2 a4 c4 D)
      have HE2 : Hid (Ex w w2) := (by rw [hw2]; exact HEx.out : Ex w w2)
      have hO0 : Hid (OwnN 25 z64 w2 w2.heap.size (.slice none 0 0) ((L.take 0).map (places D))) := OwnN.nil w2 _
      have hB0 : Hid (Ex w2 w2) := Ex.refl _
      rw [← hw2]
      clear HV hb4 HEx hw2
      go_wp2_with fail
      go_loopw [7, 8] (fun v i wr => ∃ k : Nat, k ≤ L.length ∧ i = .int .i64 k ∧ Hid (OwnN 25 z64 wr w2.heap.size v ((L.take k).map (places D))) ∧ Hid (Ex w2 wr)) (fun _ i _ => L.length - (intOf i).toNat)
      case atStart => exact ⟨0, by omega, rfl, hO0, hB0⟩
      case round =>
        obtain ⟨k, hk, rfl, HV, HEx⟩ := hrel
        clear hO0 hB0
        by_cases hlt : k < L.length
        · have hki : (k : Int) < (L.length : Int) := by omega
          have tk : decide ((k : Int) < (L.length : Int)) = true := by simp; omega
          obtain ⟨M, hM⟩ : ∃ M, M = L[k] := ⟨_, rfl⟩
          have hMl : M.length ≤ 500 := by
            have h1 := flat_take_le L (k + 1)
            rw [take_snoc hlt, flat_snoc, ← hM, List.length_append] at h1
            omega
          have HMap : Hid ((L.take (k + 1)).map (places D) = (L.take k).map (places D) ++ [places D M]) := (by rw [take_snoc hlt, List.map_append, hM]; rfl : (L.take (k + 1)).map (places D) = (L.take k).map (places D) ++ [places D M])
          obtain ⟨w4, hw4⟩ : ∃ w4, w4 = wr := ⟨_, rfl⟩
          obtain ⟨b, off, p, c, rfl, hce, hrM⟩ := ((HB.out.below HE2.out).below HEx.out).at hlt
          rw [← hM] at hce hrM
          have HM : Hid (Rd st w4 p c M) := (by rw [hw4]; exact hrM : Rd st w4 p c M)
          have HC : Hid (w4.cell? ⟨b, off + k, none⟩ = some (.slice p M.length c)) := (by rw [hw4]; exact hce : w4.cell? ⟨b, off + k, none⟩ = some (.slice p M.length c))
          have HE4 : Hid (Ex w2 w4) := (by rw [hw4]; exact HEx.out : Ex w2 w4)
          have HO4 : Hid (OwnN 25 z64 w4 w2.heap.size u7 ((L.take k).map (places D))) := (by rw [hw4]; exact HV.out : OwnN 25 z64 w4 w2.heap.size u7 ((L.take k).map (places D)))
          have hX0 : Hid (OwnR 3 z64 w4 w4.heap.size (.slice none 0 0) (places D (M.take 0))) := (⟨by simp [places], .inl ⟨rfl, rfl⟩⟩ : OwnR 3 z64 w4 w4.heap.size (.slice none 0 0) (places D (M.take 0)))
          have hpm := hrM.1
          have hpm2 := hrM.2.1
          unfold maxLen at hpm2
          rw [← hw4]
          clear hM hce hrM hw4 HV HEx
          go_wp2_with fail
          go_loopw [9, 10] (fun v i wr => ∃ q : Nat, q ≤ M.length ∧ i = .int .i64 q ∧ Hid (OwnR 3 z64 wr w4.heap.size v (places D (M.take q))) ∧ Hid (Ex w4 wr)) (fun _ i _ => M.length - (intOf i).toNat)
          case atStart => exact ⟨0, by omega, rfl, hX0, Ex.refl _⟩
          case round =>
            obtain ⟨q, hq, rfl, HV, HEx⟩ := hrel
            clear hX0
            have hsz : w4.heap.size ≤ wr.heap.size := HEx.out.size
            have hcw := HEx.out.cell (p := ⟨b, off + k, none⟩) (World.block_lt_of_cell? w4 _ HC.out)
            rw [HC.out] at hcw
            by_cases hlq : q < M.length
            · have hqi : (q : Int) < (M.length : Int) := by omega
              have tq : decide ((q : Int) < (M.length : Int)) = true := by simp; omega
              obtain ⟨b2, o2, rfl, hc2⟩ := (HM.out.below HEx.out).at hlq
              obtain ⟨x, hx⟩ : ∃ x, x = M[q] := ⟨_, rfl⟩
              rw [← hx] at hc2
              have hc2' : wr.cell? ⟨b2, o2 + q, none⟩ = some (.string (str x)) := hc2
              obtain ⟨r, hr⟩ : ∃ r, T.idx x D = r := ⟨_, rfl⟩
              obtain ⟨z, hz⟩ : ∃ z, r.getD 0 = z := ⟨_, rfl⟩
              have hpl : T.place D x = z := by rw [T.place, hr, hz]
              have HI : Hid (T.idx x D = r) := hr
              have HN : Hid (places D (M.take (q + 1)) = places D (M.take q) ++ [(z : Int)]) := (by rw [take_snoc hlq, places_snoc, ← hx, hpl] : places D (M.take (q + 1)) = places D (M.take q) ++ [(z : Int)])
              have HZz : Hid (r.getD 0 = z) := hz
              have hplen : (places D (M.take q)).length ≤ 500 := by rw [places_len]; simp; omega
              clear hc2 hx hr hz hpl
              go_wp2_with fail
              refine (rfind_is a4 _ c4 D x _ rfl ((HB4.out.below HE4.out).below HEx.out) r HI.out).mono ?_
              rintro e wq ⟨rfl, hw⟩
              have hw' := hw.symm; clear hw; subst hw'
              rw [HZz.out]
              have hov := HV.out
              go_wp2_with (at_builtin; refine wpList_append_rd (e := 3) (enc := z64) rfl (.tmp 64) (.tmp 66) 25 rfl 0 8 Try.underlying25 Try.info3 rfl (fun _ => rfl) w4.heap.size _ (places D (M.take q)) rfl (hov.alloc _) _ _ _ [(z : Int)] rfl rfl (Rd.laid wr 3 [(z : Int)] (by simp)) (by simp [maxLen]; omega) (by simp; omega) (by simp; omega) ?_; intro v9 w9 ho9 hg9; have X9 : Ex w4 w9 := step_belowR (Below.alloc HEx.out hsz _) (by simp; omega) (hov.alloc _) hg9; clear hg9)
              have HO9 : Hid (OwnR 3 z64 w9 w4.heap.size v9 (places D (M.take (q + 1)))) := (by rw [HN.out]; exact ho9 : OwnR 3 z64 w9 w4.heap.size v9 (places D (M.take (q + 1))))
              have HX9 : Hid (Ex w4 w9) := X9
              clear ho9 X9 hov
              go_wp2
              go_roundw
              case rel => exact ⟨q + 1, by omega, by go_num, HO9, HX9⟩
              case measure => simp [intOf]; omega
            · obtain rfl : q = M.length := by omega
              have tq : decide ((M.length : Int) < (M.length : Int)) = false := by simp
              have hxv := HV.out
              rw [List.take_length] at hxv
              obtain ⟨p9, c9, hv9, hb9⟩ := hxv.rd
              subst hv9
              have hown := HO4.out.later HEx.out
              have hnew : ∀ q, (sv (p9, (places D M).length, c9)).ownBlock = some q → u7.ownBlock ≠ some q := fun q hq hh => by
                have h1 := (World.ownsRow.lt hxv q hq).1
                have h2 := (HO4.out.lt q hh).2
                omega
              have HEl : Hid (ElemN z64 wr (p9, (places D M).length, c9) (places D M)) := ⟨rfl, hb9⟩
              obtain ⟨vs, hr1, he1, ha1⟩ := hown
              have hvl : vs.length ≤ 100 := by rw [he1.1]; simp; omega
              have hs1 : w2.heap.size ≤ wr.heap.size := Nat.le_trans HE4.out.size hsz
              have hb2 : Ex w2 wr := HE4.out.trans HEx.out
              clear HV hxv hb9
              go_wp2_with (at_builtin; refine wpList_append_rd_at (e := 25) (enc := sv) rfl (.tmp 68) (.tmp 70) 32 rfl (none, 0, 0) 24 Try.underlying32 Try.info25 rfl (fun _ => rfl) w2.heap.size _ vs rfl (hr1.alloc _) _ _ _ [(p9, (places D M).length, c9)] rfl rfl (Rd.laid wr 25 [(p9, (places D M).length, c9)] (by simp)) (by simp [maxLen]; omega) (by simp; omega) (by simp; omega) ?_; intro v7 w7 ho7 hg7 hat7)
              have hxa : Ex wr (wr.alloc (.cells ([(p9, (places D M).length, c9)].map sv).toArray 25)) := (Below.refl _ _).alloc (Nat.le_refl _) _
              have hp := push_nest (he1.below hxa) ha1 (HEl.out.below hxa) (fun _ => hnew) hg7 hat7
              have HO7 : Hid (OwnN 25 z64 w7 w2.heap.size v7 ((L.take (k + 1)).map (places D))) := (by rw [HMap.out]; exact ⟨_, ho7, hp.1, hp.2⟩ : OwnN 25 z64 w7 w2.heap.size v7 ((L.take (k + 1)).map (places D)))
              have HX7 : Hid (Ex w2 w7) := step_belowR (Below.alloc hb2 hs1 _) (by simp; omega) (hr1.alloc _) hg7
              clear hp ho7 hg7 hat7 hr1 he1 ha1 hnew hb2
              go_wp2
              go_roundw
              case rel => exact ⟨k + 1, by omega, by go_num, HO7, HX7⟩
              case measure => simp [intOf]; omega
        · obtain rfl : k = L.length := by omega
          have hv := HV.out
          rw [List.take_length, HP.out] at hv
          obtain ⟨a7, c7, hv7, hb7⟩ := hv.isRdN
          subst hv7
          have HB7 : Hid (RdN z64 wr a7 c7 P) := hb7
          clear HV hv hb7
          go_wp2
          go_ret2
          exact ⟨_, _, rfl, ⟨a4, c4, rfl, HB4.out.below HEx.out⟩, ⟨a7, c7, rfl, HB7.out⟩, HE2.out.trans HEx.out⟩
end Go.Proofs.Ytmnhoofjijiibaa
