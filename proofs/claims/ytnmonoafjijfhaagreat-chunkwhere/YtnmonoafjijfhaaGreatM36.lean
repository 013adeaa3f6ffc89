/-
  The landed inOrder: texts so that none falls, by rows that are joined two by two.
-/
import Derived.Test.YtnmonoafjijfhaaGreatM35
namespace Go.Proofs.YtnmonoafjijfhaaGreat
open Go.RowKit
set_option linter.unusedVariables false

theorem Tryz.size9 : (Tryz.prog.info? 9).map (·.size) = some 1 := by kernel_rfl
theorem RowAt.farB {α : Type} {enc : α → Value} {e : TypeId} {w w' : World} {g gT : Nat} {l : List α} (h : RowAt enc e w g l) (hg : w.grownBy w' (some gT)) (hne : g ≠ gT) : RowAt enc e w' g l := by
  unfold RowAt
  rw [hg.block g h.lt (by simpa using hne)]
  exact h

theorem cutAt22 (g n p e : Nat) (hp : p < n) (he : e ≤ n) (hpe : p ≤ e) (hn : n ≤ 70000) (w : World) : (Instr.sliceAt 35 (.slice (some ⟨g, 0, none⟩) n n) (some (.int .i64 p)) (some (.int .i64 e)) none).run Tryz.prog w = .ok (.slice (some ⟨g, p, none⟩) (e - p) (n - p)) w := by
  have i0 : (p : Int) ≤ (e : Int) := by omega
  have i1 : (e : Int) ≤ (n : Int) := by omega
  have i3 : n ≤ 9223372036854775807 := by omega
  have hne : ¬ n - p = 0 := by omega
  go_simp
  omega

set_option maxRecDepth 100000 in
set_option maxHeartbeats 4000000 in
theorem inOrder_is (a : Option Addr) (n cap : Nat) (l : List (List UInt8)) (w : World) (hn : n = l.length) (hB : Rd st w a cap l) (hl : l.length ≤ 70000) :
    Calls Tryz.prog 68 #[.slice a n cap] w fun e w' => ∃ v S, e = .returned v ∧ IsRd st S v w' ∧ T.Srt S ∧ (∀ x, x ∈ S ↔ x ∈ l) ∧ S.length = l.length ∧ Ex w w' := by
  have HN : Hid (n = l.length) := hn
  have HB : Hid (Rd st w a cap l) := hB
  have hn5 : n ≤ 70000 := by omega
  have hcl : n ≤ cap := by have := hB.1; omega
  have hcm := hB.2.1
  unfold maxLen at hcm
  obtain ⟨C, hC⟩ : ∃ C, C = l.map st := ⟨_, rfl⟩
  have hCl : C.length = n := by rw [hC, hn]; simp
  have HC : Hid (C = l.map st) := hC
  have hone : ∀ v ∈ C, v.oneCell' = true := by
    rw [hC]; intro v hv; obtain ⟨x, _, rfl⟩ := List.mem_map.1 hv; rfl
  have tok0 : Hid True := trivial
  clear hB hn hl hC
  go_enter Tryz.func68, Tryz.ntmps68
  go_wp2_with (first
    | (have _t := tok0; at_make; refine wpList_make_row (enc := st) rfl _ _ 35 9 rfl [] 16 Tryz.underlying35 rfl Tryz.info9 _ _ n rfl rfl rfl rfl (by omega) (by omega) ?_; intro w1 hr1 hb1; clear tok0)
    | (have _t := hr1; refine wpList_copy_splice rfl (.tmp 12) (.tmp 13) 35 35 rfl 9 Tryz.underlying35 Tryz.size9 _ _ _ _ _ _ rfl rfl w.heap.size 0 ((List.replicate n []).map st) 9 hr1 C ?c1 ?c2 ?c3 hone w.heap.size w hb1 (Nat.le_refl _) ?_; rotate_right; intro w2 hr2 hb2; clear hr1)
    | (have _t := hr2; at_make; refine wpList_make_row (enc := st) rfl _ _ 35 9 rfl [] 16 Tryz.underlying35 rfl Tryz.info9 _ _ n rfl rfl rfl rfl (by omega) (by omega) ?_; intro w3 hr3 hb3))
  case c1 => rw [hCl]; exact (Nat.min_self _).symm
  case c2 =>
    intro h0
    have hB := HB.out
    have hl0 : 0 < l.length := by have := HN.out; omega
    obtain ⟨b, off, rfl, _⟩ := hB.at hl0
    refine ⟨_, rfl, fun j u hu => ?_⟩
    rw [HC.out, List.getElem?_map] at hu
    obtain ⟨y, hy, rfl⟩ := Option.map_eq_some_iff.1 hu
    obtain ⟨b', off', hbo, hc⟩ := hB.2.2.2 j y hy
    simp at hbo
    obtain ⟨rfl, rfl⟩ := hbo
    rw [add_none, hb1.cell (p := ⟨b, off + j, none⟩) (World.block_lt_of_cell? w _ hc)]
    exact hc
  case c3 => simp; omega
  have hR0 : RowAt st 9 w2 w.heap.size l := by
    unfold RowAt
    rw [hr2.out, ← HC.out]
    have e : splice ((List.replicate n []).map st) 0 C = C := by simp [splice, hCl]
    rw [e]
  have hlt2 := hR0.lt
  obtain ⟨gF, hgF⟩ : ∃ gF, gF = w.heap.size := ⟨_, rfl⟩
  obtain ⟨gT, hgT⟩ : ∃ gT, gT = w2.heap.size := ⟨_, rfl⟩
  rw [← hgF, ← hgT]
  have hFT : gF ≠ gT := by omega
  have h0F : Hid (RowAt st 9 w3 gF l) := (by rw [hgF]; exact hR0.below hb3 : RowAt st 9 w3 gF l)
  have h0T : Hid (RowAt st 9 w3 gT (List.replicate n [])) := (by rw [hgT]; exact hr3 : RowAt st 9 w3 gT (List.replicate n []))
  have h0L : Hid ((List.replicate n ([] : List UInt8)).length = n) := (by simp : (List.replicate n ([] : List UInt8)).length = n)
  have h0X : Hid (Ex w w3) := Ex.trans (show Ex w w2 from hb2) hb3
  have h0m : Hid (∀ x, x ∈ l ↔ x ∈ l) := fun x => Iff.rfl
  have h0b : w.heap.size ≤ gF ∧ w.heap.size ≤ gT := by omega
  have h0b1 := h0b.1
  have h0b2 := h0b.2
  clear hR0 hr2 hr3 hb2 hb3 hb1 hone HC hCl hgF hgT hlt2 h0b
  go_loopw [3, 4, 5] (fun vf vt vs wr => ∃ (gF gT sz : Nat) (F Tt : List (List UInt8)), 1 ≤ sz ∧ sz ≤ 140000 ∧ gF ≠ gT ∧ w.heap.size ≤ gF ∧ w.heap.size ≤ gT ∧ vf = .slice (some ⟨gF, 0, none⟩) n n ∧ vt = .slice (some ⟨gT, 0, none⟩) n n ∧ vs = .int .i64 (sz : Int) ∧ Hid (RowAt st 9 wr gF F) ∧ Hid (RowAt st 9 wr gT Tt) ∧ Hid (F.length = n) ∧ Hid (Tt.length = n) ∧ Hid (T.Ch sz F) ∧ Hid (∀ x, x ∈ F ↔ x ∈ l) ∧ Hid (Ex w wr)) (fun _ _ vs _ => n - (intOf vs).toNat)
  case atStart => exact ⟨gF, gT, 1, l, List.replicate n [], by omega, by omega, hFT, h0b1, h0b2, rfl, rfl, rfl, h0F, h0T, HN.out.symm, h0L, T.ch_one l, h0m, h0X⟩
  case round =>
    clear h0F h0T h0L h0X h0m h0b1 h0b2 hFT
    obtain ⟨gF, gT, sz, F, Tt, hs1, hs2, hFT, hbF, hbT, rfl, rfl, rfl, HF, HT, HFl, HTl, HCh, HM, HX⟩ := hrel
    by_cases hlt : sz < n
    · have ts : decide ((sz : Int) < (n : Int)) = true := by simp; omega
      obtain ⟨G, hG⟩ : ∃ G, T.pass n sz F = G := ⟨_, rfl⟩
      have hGl : G.length = n := by rw [← hG, T.pass_len sz (by omega) n F (by rw [HFl.out]; omega)]; exact HFl.out
      have hGc : T.Ch (2 * sz) G := by rw [← hG]; exact T.pass_ch sz (by omega) n F (by rw [HFl.out]; omega) HCh.out
      have hGm : ∀ x, x ∈ G ↔ x ∈ l := fun x => by rw [← hG, T.pass_mem x sz (by omega) n F (by rw [HFl.out]; omega)]; exact HM.out x
      have HGl : Hid (G.length = n) := hGl
      have HGc : Hid (T.Ch (sz * 2) G) := (by rw [Nat.mul_comm]; exact hGc : T.Ch (sz * 2) G)
      have HGm : Hid (∀ x, x ∈ G ↔ x ∈ l) := hGm
      have h0P : Hid (Tt.take 0 ++ T.pass n sz (F.drop 0) = G) := (by simpa using hG : Tt.take 0 ++ T.pass n sz (F.drop 0) = G)
      clear hG hGl hGc hGm
      go_wp2_with fail
      go_loopw [6] (fun va wr => ∃ (p k : Nat) (Tt : List (List UInt8)), p ≤ n + 280000 ∧ va = .int .i64 (p : Int) ∧ n ≤ p + k ∧ Hid (RowAt st 9 wr gF F) ∧ Hid (RowAt st 9 wr gT Tt) ∧ Hid (Tt.length = n) ∧ Hid (Tt.take p ++ T.pass k sz (F.drop p) = G) ∧ Hid (Ex w wr)) (fun va _ => n - (intOf va).toNat)
      case atStart => exact ⟨0, n, Tt, by omega, rfl, by omega, HF, HT, HTl, h0P, HX⟩
      case round =>
        clear h0P HF HT HTl HX HCh HM
        obtain ⟨p, k, Tt, hp, rfl, hk, HF, HT, HTl, HP, HX⟩ := hrel
        by_cases hpn : p < n
        · have tp : decide ((p : Int) < (n : Int)) = true := by simp; omega
          obtain ⟨m, hm⟩ : ∃ m, m = min (p + sz) n := ⟨_, rfl⟩
          obtain ⟨e, he⟩ : ∃ e, e = min (m + sz) n := ⟨_, rfl⟩
          obtain ⟨k, rfl⟩ : ∃ k', k = k' + 1 := ⟨k - 1, by omega⟩
          obtain ⟨A, hA⟩ : ∃ A, A = (F.drop p).take (m - p) := ⟨_, rfl⟩
          obtain ⟨C, hC⟩ : ∃ C, C = (F.drop m).take (e - m) := ⟨_, rfl⟩
          obtain ⟨G0, hG0⟩ : ∃ G0, T.mg (A.length + C.length) A C = G0 := ⟨_, rfl⟩
          have hst := T.pass_step (k := k) (s := sz) (by omega) HFl.out HTl.out hpn hm he hA hC hG0
          rw [HP.out] at hst
          obtain ⟨hAl, hCl, hTl2, hP2⟩ := hst
          have hpm : p ≤ m := by omega
          have hmn : m ≤ n := by omega
          have hme : m ≤ e := by omega
          have hen : e ≤ n := by omega
          have hi1 : (if (n : Int) < (p : Int) + (sz : Int) then (n : Int) else (p : Int) + (sz : Int)) = (m : Int) := by split <;> omega
          have hi2 : (if (n : Int) < (m : Int) + (sz : Int) then (n : Int) else (m : Int) + (sz : Int)) = (e : Int) := by split <;> omega
          have hmin1 : ∀ (ts : Array TypeId) (t : TypeId) (W : World), (Builtin.min_ ts t #[.int .i64 ((p : Int) + (sz : Int)), .int .i64 (n : Int)]).run Tryz.prog W = .ok (.int .i64 (m : Int)) W := fun ts t W => by rw [run_min_int2, hi1]
          have hmin2 : ∀ (ts : Array TypeId) (t : TypeId) (W : World), (Builtin.min_ ts t #[.int .i64 ((m : Int) + (sz : Int)), .int .i64 (n : Int)]).run Tryz.prog W = .ok (.int .i64 (e : Int)) W := fun ts t W => by rw [run_min_int2, hi2]
          have hc1 := cutAt22 gT n p e hpn hen (by omega) hn5
          obtain ⟨a1, hc2, hd2, hw2⟩ := cut22 (some ⟨gF, 0, none⟩) n n p m (by omega) hmn (Nat.le_refl _) (by unfold maxLen; omega)
          obtain ⟨b1, hc3, hd3, hw3⟩ := cut22 (some ⟨gF, 0, none⟩) n n m e hme hen (Nat.le_refl _) (by unfold maxLen; omega)
          have hRF := HF.out.rd HFl.out.symm (by omega)
          have hR1 := hd2 wr F HFl.out hRF
          have hR2 := hd3 wr F HFl.out hRF
          rw [← hA] at hR1
          rw [← hC] at hR2
          have HR1 : Hid (Rd st wr a1 (n - p) A) := hR1
          have HR2 : Hid (Rd st wr b1 (n - m) C) := hR2
          have HW2 : Hid (a1.map (·.block) ≠ some gT) := (by rw [show a1.map (·.block) = _ from hw2]; simpa using hFT : a1.map (·.block) ≠ some gT)
          have HW3 : Hid (b1.map (·.block) ≠ some gT) := (by rw [show b1.map (·.block) = _ from hw3]; simpa using hFT : b1.map (·.block) ≠ some gT)
          have HC1 : Hid (∀ w, (Instr.sliceAt 35 (.slice (some ⟨gT, 0, none⟩) n n) (some (.int .i64 p)) (some (.int .i64 e)) none).run Tryz.prog w = .ok (.slice (some ⟨gT, p, none⟩) (e - p) (n - p)) w) := hc1
          have HC2 : Hid (∀ w, (Instr.sliceAt 35 (.slice (some ⟨gF, 0, none⟩) n n) (some (.int .i64 p)) (some (.int .i64 m)) none).run Tryz.prog w = .ok (.slice a1 (m - p) (n - p)) w) := hc2
          have HC3 : Hid (∀ w, (Instr.sliceAt 35 (.slice (some ⟨gF, 0, none⟩) n n) (some (.int .i64 m)) (some (.int .i64 e)) none).run Tryz.prog w = .ok (.slice b1 (e - m) (n - m)) w) := hc3
          have HAl : Hid (m - p = A.length) := hAl.symm
          have HCl : Hid (e - m = C.length) := hCl.symm
          have HEl : Hid (e - p = A.length + C.length) := (by omega : e - p = A.length + C.length)
          have HG0 : Hid (T.mg (A.length + C.length) A C = G0) := hG0
          have HTl2 : Hid ((Tt.take p ++ G0 ++ Tt.drop (p + (e - p))).length = n) := (by rw [HEl.out]; exact hTl2 : (Tt.take p ++ G0 ++ Tt.drop (p + (e - p))).length = n)
          have HP2 : Hid ((Tt.take p ++ G0 ++ Tt.drop (p + (e - p))).take (p + 2 * sz) ++ T.pass k sz (F.drop (p + 2 * sz)) = G) := (by rw [HEl.out]; exact hP2 : (Tt.take p ++ G0 ++ Tt.drop (p + (e - p))).take (p + 2 * sz) ++ T.pass k sz (F.drop (p + 2 * sz)) = G)
          clear hAl hCl hTl2 hP2 hG0 hA hC hR1 hR2 hRF hd2 hd3 hw2 hw3 hc1 hc2 hc3 hm he HP
          clear hi1 hi2
          go_wp2_with fail
          have hre : ∀ w : World, (fun w w' : World => w' = w) w w := fun _ => rfl
          refine Rg.wp_rows_tail (List.take 12 _) (List.drop 12 _) (List.take_append_drop 12 _).symm [.inl (Value.slice (some ⟨gT, 0, none⟩) n n), .inl (Value.int .i64 p), .inl (Value.int .i64 e), .inl (Value.slice (some ⟨gT, p, none⟩) (e - p) (n - p)), .inl (Value.slice (some ⟨gF, 0, none⟩) n n), .inl (Value.int .i64 p), .inl (Value.int .i64 m), .inl (Value.slice a1 (m - p) (n - p)), .inl (Value.slice (some ⟨gF, 0, none⟩) n n), .inl (Value.int .i64 m), .inl (Value.int .i64 e), .inl (Value.slice b1 (e - m) (n - m))] (fun wx => wx = wr.drew) (fun w w' => w' = w) 60 (by kernel_rfl) rfl (by kernel_rfl) (by kernel_rfl) (by kernel_rfl) (by decide) (by kernel_rfl) ?st hre rfl ?goods ?fin
          case st => exact trivial
          case goods =>
            refine Rg.goods_cons (Rg.good_move hre rfl rfl rfl) ?_
            refine Rg.goods_cons (Rg.good_move hre rfl rfl rfl) ?_
            refine Rg.goods_cons (Rg.good_move hre rfl rfl rfl) ?_
            refine Rg.goods_cons (Rg.good_cut3 hre rfl rfl rfl rfl rfl HC1.out) ?_
            refine Rg.goods_cons (Rg.good_move hre rfl rfl rfl) ?_
            refine Rg.goods_cons (Rg.good_move hre rfl rfl rfl) ?_
            refine Rg.goods_cons (Rg.good_move hre rfl rfl rfl) ?_
            refine Rg.goods_cons (Rg.good_cut3 hre rfl rfl rfl rfl rfl HC2.out) ?_
            refine Rg.goods_cons (Rg.good_move hre rfl rfl rfl) ?_
            refine Rg.goods_cons (Rg.good_move hre rfl rfl rfl) ?_
            refine Rg.goods_cons (Rg.good_move hre rfl rfl rfl) ?_
            refine Rg.goods_cons (Rg.good_cut3 hre rfl rfl rfl rfl rfl HC3.out) ?_
            exact Rg.goods_nil
          case fin =>
            intro wx hx
            have hx0 : wr.grownBy wx (some gT) := by rw [hx]; exact drew_grown (World.grownBy.refl wr _)
            have HT0 : Hid (RowAt st 9 wx gT Tt) := (by rw [hx]; exact HT.out : RowAt st 9 wx gT Tt)
            have HX0 : Hid (wr.grownBy wx (some gT)) := hx0
            have HA0 : Hid (Rd st wx a1 (n - p) A) := HR1.out.farB hx0 HW2.out
            have HB0 : Hid (Rd st wx b1 (n - m) C) := HR2.out.farB hx0 HW3.out
            clear hx hx0 hre
            simp only [Rg.later, List.take_succ_cons, List.take_zero, List.drop_succ_cons, List.drop_zero, Act.put, List.setIfInBounds_toArray, List.set_cons_succ, List.set_cons_zero]
            go_wp2_with fail
            refine (join_is gT p (e - p) (n - p) Tt a1 (m - p) (n - p) A b1 (e - m) (n - m) C wx HT0.out HEl.out (by rw [HTl.out]; omega) (by rw [HTl.out]; omega) HAl.out HCl.out HA0.out HB0.out HW2.out HW3.out (by omega) (by unfold maxLen; omega) G0 HG0.out).mono ?_
            rintro e9 w9 ⟨rfl, hr9, hg9⟩
            have hgw : wr.grownBy w9 (some gT) := HX0.out.trans hg9
            have HR9 : Hid (RowAt st 9 w9 gT (Tt.take p ++ G0 ++ Tt.drop (p + (e - p)))) := hr9
            have HF9 : Hid (RowAt st 9 w9 gF F) := HF.out.farB hgw hFT
            have HX9 : Hid (Ex w w9) := Below.grown HX.out hgw HX.out.size (fun k hk => by simp at hk; omega)
            clear hgw hr9 hg9
            go_wp2
            go_roundw
            case rel => exact ⟨p + 2 * sz, k, _, by omega, by go_num, by omega, HF9, HR9, HTl2, HP2, HX9⟩
            case measure => simp [intOf]; omega
        · have tp : decide ((p : Int) < (n : Int)) = false := by simp; omega
          have hTG : Tt = G := by
            have h := HP.out
            rw [List.drop_eq_nil_of_le (by rw [HFl.out]; omega), T.pass_nil, List.append_nil, List.take_of_length_le (by rw [HTl.out]; omega)] at h
            exact h
          have HT2 : Hid (RowAt st 9 wr gT G) := (by rw [← hTG]; exact HT.out : RowAt st 9 wr gT G)
          clear HP hTG HT
          go_wp2
          go_roundw
          case rel => exact ⟨gT, gF, sz * 2, G, F, by omega, by omega, Ne.symm hFT, hbT, hbF, rfl, rfl, by go_num, HT2, HF, HGl, HFl, HGc, HGm, HX⟩
          case measure => simp [intOf]; omega
    · have ts : decide ((sz : Int) < (n : Int)) = false := by simp; omega
      have hfl := HFl.out
      have HS : Hid (T.Srt F) := T.ch_all HCh.out (by omega)
      have HRd : Hid (Rd st wr (some ⟨gF, 0, none⟩) n F) := HF.out.rd HFl.out.symm (by omega)
      clear hfl HF HT HTl HCh
      go_wp2
      go_ret
      exact ⟨_, F, rfl, ⟨some ⟨gF, 0, none⟩, n, by rw [HFl.out]; rfl, HRd.out⟩, HS.out, HM.out, by rw [HFl.out]; exact HN.out, HX.out⟩
end Go.Proofs.YtnmonoafjijfhaaGreat
