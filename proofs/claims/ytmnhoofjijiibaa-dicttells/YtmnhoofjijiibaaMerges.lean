/-
  The landed Merge.
-/
import Derived.Test.YtmnhoofjijiibaaDecodes
namespace Go.Proofs.Ytmnhoofjijiibaa
open Go.RowKit
set_option linter.unusedVariables false

theorem Try.size3 : (Try.prog.info? 3).map (·.size) = some 1 := by kernel_rfl
section
variable {α : Type} {enc : α → Value}
/-- A list whose block is as it was. -/
theorem Rd.keep {w w' : World} {a : Option Addr} {cap : Nat} {l : List α} (h : Rd enc w a cap l) (hk : ∀ q, q < w.heap.size → a.map (·.block) = some q → l ≠ [] → w'.heap[q]? = w.heap[q]?) : Rd enc w' a cap l := by
  obtain ⟨h1, h2, h3, h4⟩ := h
  refine ⟨h1, h2, h3, fun i y hi => ?_⟩
  obtain ⟨q, off, e, hc⟩ := h4 i y hi
  refine ⟨q, off, e, ?_⟩
  have hne : l ≠ [] := fun h0 => by rw [h0] at hi; simp at hi
  rw [World.cell?_of_block (w := w) (w' := w') (a := ⟨q, off + i, none⟩) (hk q (World.block_lt_of_cell? w _ hc) (by rw [e]; rfl) hne)]
  exact hc
theorem EachN.keep {w w' : World} {vs : List SV} {L : List (List α)} (h : EachN enc w vs L) (hk : ∀ s ∈ vs, 0 < s.2.1 → ∀ q, q < w.heap.size → s.1.map (·.block) = some q → w'.heap[q]? = w.heap[q]?) : EachN enc w' vs L := by
  refine ⟨h.1, fun i s x h1 h2 => ?_⟩
  obtain ⟨e1, e2⟩ := h.2 i s x h1 h2
  refine ⟨e1, e2.keep fun q hq hb hne => hk s (List.mem_of_getElem? h1) ?_ q hq hb⟩
  rw [e1]
  exact List.length_pos_iff.2 hne
theorem EachN.snoc {w : World} {vs : List SV} {L : List (List α)} {s : SV} {x : List α} (h : EachN enc w vs L) (hs : ElemN enc w s x) : EachN enc w (vs ++ [s]) (L ++ [x]) := by
  refine ⟨by simp [h.1], fun i t y h1 h2 => ?_⟩
  by_cases hi : i < vs.length
  · rw [List.getElem?_append_left hi] at h1
    rw [List.getElem?_append_left (by rw [← h.1]; exact hi)] at h2
    exact h.2 i t y h1 h2
  · rw [List.getElem?_append_right (by omega)] at h1
    rw [List.getElem?_append_right (by rw [← h.1]; omega), ← h.1] at h2
    have : i - vs.length = 0 := by
      rcases Nat.eq_zero_or_pos (i - vs.length) with h0 | h0
      · exact h0
      · rw [List.getElem?_eq_none (by simp; omega)] at h1; cases h1
    rw [this] at h1 h2
    simp at h1 h2
    rw [← h1, ← h2]
    exact hs
end
theorem flat_drop {L : List (List (List UInt8))} {k : Nat} (h : k < L.length) : flat (L.drop k) = L[k] ++ flat (L.drop (k + 1)) := by
  unfold flat; rw [List.drop_eq_getElem_cons h, List.flatten_cons]
theorem places_app (D l m : List (List UInt8)) : places D (l ++ m) = places D l ++ places D m := by simp [places]
theorem set_vs {α : Type} (vs : List α) (z s : α) (n k : Nat) (hv : vs.length = k) (hk : k < n) : (vs ++ List.replicate (n - k) z).set k s = (vs ++ [s]) ++ List.replicate (n - (k + 1)) z := by
  rw [List.set_append_right _ _ (by omega), hv, Nat.sub_self, show n - k = (n - (k + 1)) + 1 from by omega, List.replicate_succ, List.set_cons_zero]
  simp

set_option maxRecDepth 100000 in
set_option maxHeartbeats 4000000 in
theorem smerge_is (a : Option Addr) (n cap : Nat) (L : List (List (List UInt8))) (w : World) (hn : n = L.length) (hB : RdN st w a cap L) (hl : (flat L).length ≤ 500) (hL : L.length ≤ 100) (D : List (List UInt8)) (hD : T.bld (flat L) = D) (P : List (List Int)) (hP : L.map (places D) = P) :
    Calls Try.prog 15 #[.slice a n cap] w fun e w' => ∃ v u, e = .returned (.tuple #[v, u]) ∧ IsRd st D v w' ∧ IsRdN z64 P u w' ∧ Ex w w' := by
  subst hn
  have HB : Hid (RdN st w a cap L) := hB
  have HD : Hid (T.bld (flat L) = D) := hD
  have HP : Hid (L.map (places D) = P) := hP
  have hbb := hB.bounds
  have hcl := hbb.1
  have hcm := hbb.2
  unfold maxLen at hcm
  have h0 : Hid (OwnR 9 st w w.heap.size (.slice none 0 0) (flat (L.take 0))) := (⟨by simp [flat], .inl ⟨rfl, rfl⟩⟩ : OwnR 9 st w w.heap.size (.slice none 0 0) (flat (L.take 0)))
  clear hB hD hP hbb
  go_enter Try.func15, Try.ntmps15
  go_wp2_with fail
  go_loopw [4, 14] (fun v i wr => ∃ k : Nat, k ≤ L.length ∧ i = .int .i64 k ∧ Hid (OwnR 9 st wr w.heap.size v (flat (L.take k))) ∧ Hid (Ex w wr)) (fun _ i _ => L.length - (intOf i).toNat)
  case atStart => exact ⟨0, by omega, rfl, h0, Ex.refl _⟩
  case round =>
    obtain ⟨k, hk, rfl, HV, HEx⟩ := hrel
    clear h0
    have hsz : w.heap.size ≤ wr.heap.size := HEx.out.size
    by_cases hlt : k < L.length
    · have hki : (k : Int) < (L.length : Int) := by omega
      have tk : decide ((k : Int) < (L.length : Int)) = true := by simp; omega
      obtain ⟨M, hM⟩ : ∃ M, M = L[k] := ⟨_, rfl⟩
      have hflat : flat (L.take (k + 1)) = flat (L.take k) ++ M := by rw [take_snoc hlt, flat_snoc, hM]
      have hfl := flat_take_le L (k + 1)
      rw [hflat, List.length_append] at hfl
      have HFl : Hid (flat (L.take (k + 1)) = flat (L.take k) ++ M) := hflat
      obtain ⟨b, off, p, c, rfl, hce, hrM⟩ := (HB.out.below HEx.out).at hlt
      rw [← hM] at hce hrM
      have HM : Hid (Rd st wr p c M) := hrM
      have hov := HV.out
      clear hM hflat hrM
      go_wp2_with (at_builtin; refine wpList_append_rd (e := 9) (enc := st) rfl (.tmp 18) (.tmp 19) 22 rfl [] 16 Try.underlying22 Try.info9 rfl (fun _ => rfl) w.heap.size _ (flat (L.take k)) rfl hov _ _ _ M rfl rfl HM.out (by simp [maxLen]; omega) (by omega) hsz ?_; intro v9 w9 ho9 hg9; have X9 : Ex w w9 := step_belowR HEx.out hsz hov hg9; clear hg9)
      have HO9 : Hid (OwnR 9 st w9 w.heap.size v9 (flat (L.take (k + 1)))) := (by rw [HFl.out]; exact ho9 : OwnR 9 st w9 w.heap.size v9 (flat (L.take (k + 1))))
      have HX9 : Hid (Ex w w9) := X9
      clear ho9 X9 hov
      go_wp2
      go_roundw
      case rel => exact ⟨k + 1, by omega, by go_num, HO9, HX9⟩
      case measure => simp [intOf]; omega
    · obtain rfl : k = L.length := by omega
      have tk : decide ((L.length : Int) < (L.length : Int)) = false := by simp
      have hv := HV.out
      rw [List.take_length] at hv
      obtain ⟨a4, c4, hv4, hb4⟩ := hv.rd
      subst hv4
      have HB4 : Hid (Rd st wr a4 c4 (flat L)) := hb4
      clear HV hb4 hv
      go_wp2_with fail
      refine (sbuild_is a4 _ c4 (flat L) _ rfl HB4.out hl D HD.out (places D (flat L)) rfl).mono ?_
      rintro e w2 ⟨v2, u2, rfl, hv2, hu2, hx2⟩
      obtain ⟨a7, c7, hv7, hb7⟩ := hv2
      obtain ⟨a8, c8, hv8, hb8⟩ := hu2
      subst hv7
      subst hv8
      have HB7 : Hid (Rd st w2 a7 c7 D) := hb7
      have HB8 : Hid (Rd z64 w2 a8 c8 (places D (flat L))) := hb8
      have HX2 : Hid (Ex w w2) := HEx.out.trans hx2
      clear hb7 hb8 hx2 HB4 HEx
      go_wp2_with (at_make; refine wpList_make_row (enc := sv) rfl _ _ 32 25 rfl (none, 0, 0) 24 Try.underlying32 rfl Try.info25 _ _ L.length rfl rfl rfl rfl (by omega) (by omega) ?_; intro w3 hr3 hb3)
      obtain ⟨g, hg⟩ : ∃ g, g = w2.heap.size := ⟨_, rfl⟩
      rw [← hg]
      have hgw : w.heap.size ≤ g := by have := HX2.out.size; omega
      have h0R : Hid (RowAt sv 25 w3 g ([] ++ List.replicate (L.length - 0) (none, 0, 0))) := (by rw [hg]; exact hr3 : RowAt sv 25 w3 g ([] ++ List.replicate (L.length - 0) (none, 0, 0)))
      have h0E : Hid (EachN z64 w3 [] ((L.take 0).map (places D))) := EachN.nil w3
      have h0A : Hid (∀ s ∈ ([] : List SV), 0 < s.2.1 → s.1.map (·.block) ≠ some g) := (fun s h => by simp at h : ∀ s ∈ ([] : List SV), 0 < s.2.1 → s.1.map (·.block) ≠ some g)
      have h0P : Hid (Rd z64 w3 a8 c8 (places D (flat (L.drop 0)))) := HB8.out.below hb3
      have h0Q : Hid (places D (flat (L.drop 0)) ≠ [] → a8.map (·.block) ≠ some g) := (fun hne hh => by
        have hp : 0 < (places D (flat L)).length := List.length_pos_iff.2 hne
        obtain ⟨q, off, e, hc⟩ := HB8.out.at hp
        rw [e] at hh
        have h1 : q = g := by simpa using hh
        have h2 := World.block_lt_of_cell? w2 _ hc
        have h3 : q < w2.heap.size := h2
        omega : places D (flat (L.drop 0)) ≠ [] → a8.map (·.block) ≠ some g)
      have h0D : Hid (Rd st w3 a7 c7 D) := HB7.out.below hb3
      have h0X : Hid (Ex w w3) := HX2.out.trans hb3
      have h0B : Hid (Below g w2 w3) := (by rw [hg]; exact hb3 : Below g w2 w3)
      have HGb : Hid (g = w2.heap.size) := hg
      have h0n : Hid ((places D (flat L)).length = (places D (flat (L.drop 0))).length) := rfl
      clear hr3 hb3 hg HB8
      go_loopw [8, 32] (fun v8 i wr => ∃ (k n8 c8 : Nat) (a8 : Option Addr) (vs : List SV), k ≤ L.length ∧ i = .int .i64 k ∧ v8 = .slice a8 n8 c8 ∧ Hid (n8 = (places D (flat (L.drop k))).length) ∧ Hid (vs.length = k) ∧ Hid (RowAt sv 25 wr g (vs ++ List.replicate (L.length - k) (none, 0, 0))) ∧ Hid (EachN z64 wr vs ((L.take k).map (places D))) ∧ Hid (∀ s ∈ vs, 0 < s.2.1 → s.1.map (·.block) ≠ some g) ∧ Hid (Rd z64 wr a8 c8 (places D (flat (L.drop k)))) ∧ Hid (places D (flat (L.drop k)) ≠ [] → a8.map (·.block) ≠ some g) ∧ Hid (Below g w2 wr)) (fun _ i _ => L.length - (intOf i).toNat)
      case atStart => exact ⟨0, _, c8, a8, [], by omega, rfl, rfl, h0n, (rfl : ([] : List SV).length = 0), h0R, h0E, h0A, h0P, h0Q, h0B⟩
      case round =>
        obtain ⟨k, n8, c8, a8, vs, hk, rfl, rfl, HN8, HVl, HRo, HE, HA, HPl, HQ, HBl⟩ := hrel
        clear h0R h0E h0A h0P h0Q h0D h0X h0B h0n
        have hE2 : Ex w2 wr := by have := HBl.out; rw [HGb.out] at this; exact this
        have HE2 : Hid (Ex w2 wr) := hE2
        clear hE2
        by_cases hlt : k < L.length
        · have hki : (k : Int) < (L.length : Int) := by omega
          have tk : decide ((k : Int) < (L.length : Int)) = true := by simp; omega
          obtain ⟨M, hM⟩ : ∃ M, M = L[k] := ⟨_, rfl⟩
          obtain ⟨b, off, p, c, rfl, hce, hrM⟩ := ((HB.out.below HX2.out).below HE2.out).at hlt
          rw [← hM] at hce hrM
          have hfd : flat (L.drop k) = M ++ flat (L.drop (k + 1)) := by rw [flat_drop hlt, hM]
          have hpd : places D (flat (L.drop k)) = places D M ++ places D (flat (L.drop (k + 1))) := by rw [hfd, places_app]
          have hMap : (L.take (k + 1)).map (places D) = (L.take k).map (places D) ++ [places D M] := by rw [take_snoc hlt, List.map_append, hM]; rfl
          obtain ⟨m, hm⟩ : ∃ m, M.length = m := ⟨_, rfl⟩
          rw [hm] at hce
          have hmn : m ≤ n8 := by rw [HN8.out, hpd, List.length_append, places_len, hm]; omega
          have hnl : n8 ≤ 500 := by
            rw [HN8.out, places_len]
            have h1 := flat_take_le L k
            have h2 : flat L = flat (L.take k) ++ flat (L.drop k) := by unfold flat; rw [← List.flatten_append, List.take_append_drop]
            rw [h2, List.length_append] at hl
            omega
          have hc8 : n8 ≤ c8 := by rw [HN8.out]; exact HPl.out.1
          have hc8m := HPl.out.2.1
          obtain ⟨C, hC⟩ : ∃ C, C = (places D M).map z64 := ⟨_, rfl⟩
          have hCl : C.length = m := by rw [hC, List.length_map, places_len, hm]
          have hone : ∀ v ∈ C, v.oneCell' = true := by
            rw [hC]; intro v hv; obtain ⟨x, _, rfl⟩ := List.mem_map.1 hv; rfl
          have hmin : Nat.min n8 m = m := Nat.min_eq_right hmn
          obtain ⟨a9, hcut, hrd, hwi⟩ := lo25 a8 n8 c8 m hmn hc8 hc8m
          have hRl : (vs ++ List.replicate (L.length - k) ((none, 0, 0) : SV)).length = L.length := by have := HVl.out; simp; omega
          have hco := HRo.out.cell (k := k) (by rw [hRl]; exact hlt)
          obtain ⟨old, hold⟩ : ∃ old, old = (vs ++ List.replicate (L.length - k) ((none, 0, 0) : SV))[k]'(by rw [hRl]; exact hlt) := ⟨_, rfl⟩
          rw [← hold] at hco
          have hgl : g < wr.heap.size := HRo.out.lt
          have HCo : Hid (wr.cell? ⟨g, k, none⟩ = some (sv old)) := hco
          have HHc : Hid (C = (places D M).map z64) := hC
          have HOne : Hid (∀ v ∈ C, v.oneCell' = true) := hone
          have HPd : Hid (places D (flat (L.drop k)) = places D M ++ places D (flat (L.drop (k + 1)))) := hpd
          have HMap : Hid ((L.take (k + 1)).map (places D) = (L.take k).map (places D) ++ [places D M]) := hMap
          have HMl : Hid (M.length = m) := hm
          have HRd : Hid (∀ (w : World) (l : List Int), l.length = n8 → Rd z64 w a8 c8 l → Rd z64 w a9 (c8 - m) ((l.drop m).take (n8 - m))) := hrd
          have HWi : Hid (a9.map (·.block) = a8.map (·.block)) := hwi
          have HCl : Hid (C.length = m) := hCl
          have HMin : Hid (Nat.min n8 m = m) := hmin
          have tok : Hid True := trivial
          have hstep : ∀ w4, RowAt z64 3 w4 wr.heap.size (List.replicate m 0) → Below wr.heap.size wr w4 → ∃ w5, w4.setCell ⟨g, k, none⟩ (.slice (some ⟨wr.heap.size, 0, none⟩) m m) = w5 ∧ w4.cell? ⟨g, k, none⟩ = some (sv old) ∧ w4.frozen? ⟨g, k, none⟩ = false ∧ Hid (RowAt sv 25 w5 g ((vs ++ List.replicate (L.length - k) (none, 0, 0)).set k (some ⟨wr.heap.size, 0, none⟩, m, m))) ∧ w5.cell? ⟨g, k, none⟩ = some (.slice (some ⟨wr.heap.size, 0, none⟩) m m) ∧ RowAt z64 3 w5 wr.heap.size (List.replicate m 0) ∧ Hid (∀ q, q < wr.heap.size → q ≠ g → w5.heap[q]? = wr.heap[q]?) ∧ Hid (Below g wr w5) := by
            intro w4 hr4 hb4
            have hset := (HRo.out.below hb4).set (k := k) (some ⟨wr.heap.size, 0, none⟩, m, m) rfl
            refine ⟨_, rfl, ?_, (HRo.out.below hb4).frozen k, hset, ?_, hr4.other (by omega), fun q hq hne => ?_, ?_⟩
            · rw [hb4.cell (p := ⟨g, k, none⟩) hgl]; exact HCo.out
            · have h := hset.cell (k := k) (by have := HVl.out; simp; omega)
              rw [h]; simp
            · rw [Below.heap_setCell _ _ _ _ hne]; exact hb4.block q hq
            · exact (hb4.mono (Nat.le_of_lt hgl)).setCell (p := ⟨g, k, none⟩) (Nat.le_refl _) _
          have HStep : Hid (∀ w4, RowAt z64 3 w4 wr.heap.size (List.replicate m 0) → Below wr.heap.size wr w4 → ∃ w5, w4.setCell ⟨g, k, none⟩ (.slice (some ⟨wr.heap.size, 0, none⟩) m m) = w5 ∧ w4.cell? ⟨g, k, none⟩ = some (sv old) ∧ w4.frozen? ⟨g, k, none⟩ = false ∧ Hid (RowAt sv 25 w5 g ((vs ++ List.replicate (L.length - k) (none, 0, 0)).set k (some ⟨wr.heap.size, 0, none⟩, m, m))) ∧ w5.cell? ⟨g, k, none⟩ = some (.slice (some ⟨wr.heap.size, 0, none⟩) m m) ∧ RowAt z64 3 w5 wr.heap.size (List.replicate m 0) ∧ Hid (∀ q, q < wr.heap.size → q ≠ g → w5.heap[q]? = wr.heap[q]?) ∧ Hid (Below g wr w5)) := hstep
          unfold maxLen at hc8m
          clear hM hrM hfd hpd hMap hm hC hone hrd hwi hold hRl hco hCl hmin hstep
          go_wp2_with (first
            | (have _t := tok; at_make; refine wpList_make_row (enc := z64) rfl _ _ 25 3 rfl 0 8 Try.underlying25 rfl Try.info3 _ _ m rfl rfl rfl rfl (by omega) (by omega) ?_; intro w4 hr4 hb4; obtain ⟨w5, hw5, hc4, hf4, hR5, hc5, hr5, HK5, HB5⟩ := HStep.out w4 hr4 hb4; clear tok hr4 hb4)
            | (have _t := hr5; refine wpList_copy_splice rfl (.tmp 46) (.tmp 47) 25 25 rfl 3 Try.underlying25 Try.size3 _ _ _ _ _ _ rfl rfl wr.heap.size 0 ((List.replicate m 0).map z64) 3 hr5 C ?c1 ?c2 ?c3 HOne.out wr.heap.size w5 (Below.refl _ _) (Nat.le_refl _) ?_; rotate_right; intro w6 hr6 hb6; clear hr5))
          case c1 => exact HCl.out
          case c2 =>
            intro h0
            have hpp : 0 < (places D (flat (L.drop k))).length := by rw [HPd.out, List.length_append, places_len, HMl.out, ← HCl.out]; omega
            have hne : places D (flat (L.drop k)) ≠ [] := List.length_pos_iff.1 hpp
            obtain ⟨q, off, e, hc⟩ := HPl.out.at hpp
            subst e
            refine ⟨_, rfl, fun j u hu => ?_⟩
            rw [HHc.out, List.getElem?_map] at hu
            obtain ⟨y, hy, rfl⟩ := Option.map_eq_some_iff.1 hu
            have hjl := (List.getElem?_eq_some_iff.1 hy).1
            obtain ⟨b', off', hbo, hc2⟩ := HPl.out.2.2.2 j y (by rw [HPd.out, List.getElem?_append_left hjl]; exact hy)
            simp at hbo
            obtain ⟨rfl, rfl⟩ := hbo
            have hq : q < wr.heap.size := World.block_lt_of_cell? wr _ hc2
            have hqg : q ≠ g := by have := HQ.out hne; simpa using this
            rw [add_none, World.cell?_of_block (w := wr) (w' := w5) (a := ⟨q, off + j, none⟩) (HK5.out q hq hqg)]
            exact hc2
          case c3 => rw [HCl.out]; exact Nat.le_refl _
          have hpl : (places D M).length = m := by rw [places_len]; exact HMl.out
          have hR6 : RowAt z64 3 w6 wr.heap.size (places D M) := by
            unfold RowAt
            rw [hr6.out, ← HHc.out]
            have e : splice ((List.replicate m 0).map z64) 0 C = C := by simp [splice, HCl.out]
            rw [e]
          have hk6 : ∀ q, q < wr.heap.size → q ≠ g → w6.heap[q]? = wr.heap[q]? := fun q hq hne => by rw [hb6.block q hq]; exact HK5.out q hq hne
          have hgo : RowAt sv 25 w6 g ((vs ++ [(some ⟨wr.heap.size, 0, none⟩, m, m)]) ++ List.replicate (L.length - (k + 1)) (none, 0, 0)) := by
            have h := hR5.out
            rw [set_vs vs _ _ L.length k HVl.out hlt] at h
            unfold RowAt at h ⊢
            rw [hb6.block g hgl]; exact h
          have hrest := HRd.out wr _ HN8.out.symm HPl.out
          have hnn : n8 - m = (places D (flat (L.drop (k + 1)))).length := by rw [HN8.out, HPd.out, List.length_append, hpl]; omega
          rw [HPd.out, ← hpl, List.drop_left, hpl, hnn, List.take_length] at hrest
          have hq9 : places D (flat (L.drop (k + 1))) ≠ [] → a9.map (·.block) ≠ some g := fun hne => by
            rw [HWi.out]
            refine HQ.out (fun h0 => ?_)
            rw [HPd.out] at h0
            exact hne (List.append_eq_nil_iff.1 h0).2
          have hel : ElemN z64 w6 (some ⟨wr.heap.size, 0, none⟩, m, m) (places D M) := ⟨hpl.symm, hR6.rd hpl.symm (show m ≤ 140737488355328 by omega)⟩
          have hvl2 : (vs ++ [((some ⟨wr.heap.size, 0, none⟩, m, m) : SV)]).length = k + 1 := by have := HVl.out; simp; exact this
          obtain ⟨V, hV⟩ : ∃ V : List SV, vs ++ [((some ⟨wr.heap.size, 0, none⟩, m, m) : SV)] = V := ⟨_, rfl⟩
          rw [hV] at hvl2 hgo
          refine ⟨⟨k + 1, n8 - m, c8 - m, a9, V, by omega, by go_num, rfl, hnn, hvl2, hgo, ?_, ?_, ?_, hq9, ?_⟩, by simp [intOf]; omega⟩
          · show EachN z64 w6 _ _
            rw [HMap.out, ← hV]
            refine EachN.snoc (HE.out.keep fun s hs h0 q hq hb => hk6 q hq (fun h => ?_)) hel
            exact HA.out s hs h0 (by rw [hb, h])
          · intro s hs h0
            rw [← hV] at hs
            rcases List.mem_append.1 hs with h | h
            · exact HA.out s h h0
            · have hs' : s = (some ⟨wr.heap.size, 0, none⟩, m, m) := by simpa using h
              rw [hs']
              simp
              omega
          · exact hrest.keep fun q hq hb hne => hk6 q hq (fun h => hq9 hne (by rw [hb, h]))
          · exact (HBl.out.trans HB5.out).trans (hb6.mono (Nat.le_of_lt hgl))
        · obtain rfl : k = L.length := by omega
          have tk : decide ((L.length : Int) < (L.length : Int)) = false := by simp
          have hro := HRo.out
          rw [Nat.sub_self, List.replicate_zero, List.append_nil] at hro
          have hea := HE.out
          rw [List.take_length, HP.out] at hea
          have hPl : L.length = P.length := by rw [← HP.out]; simp
          have HRf : Hid (RdN z64 wr (some ⟨g, 0, none⟩) L.length P) := ⟨vs, hro.rd HVl.out.symm (by omega), hea⟩
          have HPn : Hid (L.length = P.length) := hPl
          clear hPl hro hea HE HRo HA HQ HPl HN8
          go_wp2
          go_ret2
          exact ⟨_, _, rfl, ⟨a7, c7, rfl, HB7.out.below HE2.out⟩, ⟨some ⟨g, 0, none⟩, L.length, by rw [← HPn.out]; rfl, HRf.out⟩, HX2.out.trans HE2.out⟩
end Go.Proofs.Ytmnhoofjijiibaa
