/-
  The walk of ChunkWhere.
-/
import Derived.Test.YtnmonoafjijfhaaGreatP4
import Derived.Test.YtnmonoafjijfhaaGreatM54
import Derived.Test.YtnmonoafjijfhaaGreatM49
import Derived.Test.YtnmonoafjijfhaaGreatM24
import Derived.Deep.Cut
import Derived.Deep.DeepCutAuto
namespace Go.Proofs.YtnmonoafjijfhaaGreat
open Go.RowKit
set_option linter.unusedVariables false
theorem pr_mk (p : Pr) : ∃ h l, p = Pr.mk' h l := Pd.tree (P := fun p => ∃ h l, p = Pr.mk' h l) (fun h l _ => ⟨h, l, rfl⟩) p
end Go.Proofs.YtnmonoafjijfhaaGreat
namespace Go.Proofs.YtnmonoafjijfhaaGreat.chunkWhere
open Go.RowKit Go.Proofs.YtnmonoafjijfhaaGreat
set_option linter.unusedVariables false
set_option linter.unusedSimpArgs false
set_option maxRecDepth 100000 in
set_option maxHeartbeats 8000000 in
theorem walk (a0 : Int) (p1 : Option Addr) (c1 : Nat) (l1 : List Ce) (a2 : Bool) (v3 : PV) (p3 : Pr) (w : World) (w0 : -9223372036854775808 ≤ a0 ∧ a0 ≤ 9223372036854775807) (b1 : RdC w p1 c1 l1) (m1 : ∀ c ∈ l1, In64 c.n ∧ c.s.length ≤ maxLen) (b3 : Pd.Lay (fun _ => True) p3 w v3) (m3 : Pd.Raw p3) :
    Calls Tryz.prog 7 #[.int .i64 a0, .slice p1 l1.length c1, .bool a2, pvv v3] w fun e w' => e = .returned (.bool true) ∧ Below w.heap.size w w' := by
  have HB1 : Hid (RdC w p1 c1 l1) := b1
  have HM1 : Hid (∀ c ∈ l1, In64 c.n ∧ c.s.length ≤ maxLen) := m1
  have HM3 : Hid (Pd.Raw p3) := m3
  obtain ⟨n1, hn1⟩ : ∃ n, l1.length = n := ⟨_, rfl⟩
  rw [hn1]
  have HN1 : Hid (l1.length = n1) := hn1
  obtain ⟨vk, vcol, vn, vm, vs, vset, vkids⟩ := v3
  obtain ⟨wA, hwA⟩ : ∃ wA, w.alloc (pb ⟨vk, vcol, vn, vm, vs, vset, vkids⟩) = wA := ⟨_, rfl⟩
  have hXA : Ex w wA := by rw [← hwA]; exact (Below.refl _ _).alloc (Nat.le_refl _) _
  have HXA : Hid (Ex w wA) := hXA
  have HPA : Hid (PAt wA w.heap.size ⟨vk, vcol, vn, vm, vs, vset, vkids⟩) := (by rw [← hwA]; exact PAt.new w _ : PAt wA w.heap.size ⟨vk, vcol, vn, vm, vs, vset, vkids⟩)
  have HSA : Hid (wA.heap.size = w.heap.size + 1) := (by rw [← hwA]; simp : wA.heap.size = w.heap.size + 1)
  have HCut : Hid (Calls Tryz.prog 23 #[pvv ⟨vk, vcol, vn, vm, vs, vset, vkids⟩, .int .i64 (1 : Nat)] wA fun e w' => ∃ u, e = .returned (pvv u) ∧ Pd.Lay (fun b => wA.heap.size ≤ b) (Pd.cut p3 1) w' u ∧ Ex wA w') := cut_is p3 _ wA 1 (Pd.Lay.below _ b3 hXA) m3 (by omega)
  obtain ⟨p0', p1', p2', p3', p4', p5', p6'⟩ := HPA.out.all
  simp only at p0' p1' p2' p3' p4' p5' p6'
  clear b1 m1 b3 m3 hn1 hXA
  unfold pvv
  simp only [sv]
  go_enter Tryz.func7, Tryz.ntmps7
  go_wp2_with fail
  refine (within_any a0 1 wA w0.1 w0.2 (by omega) (by omega)).mono ?_
  rintro e0 wB ⟨r, hr, rfl, hwB⟩
  have hwB' := hwB.symm
  clear hwB
  subst hwB'
  clear w0
  obtain ⟨K, hK⟩ : ∃ K : Int, 1 + (r : Int) = K := ⟨_, rfl⟩
  have hk : K = 1 ∨ K = 2 := by omega
  have hwr : IntKind.i64.wrap (1 + (r : Int)) = K := by rw [IntKind.wrap_i64]; omega
  have hwk : IntKind.i64.wrap K = K := by rw [IntKind.wrap_i64]; omega
  have HK : Hid (K = 1 ∨ K = 2) := hk
  clear hk
  go_wp2_with fail
  clear hwr hwk hK hr
  go_at_call 23
  refine Calls.mono HCut.out ?_
  rintro e w1 ⟨u, rfl, hL1, hx1⟩
  have hP1 := HPA.out.below hx1
  obtain ⟨w2, hw2⟩ : ∃ w2, pset w1 w.heap.size u = w2 := ⟨_, rfl⟩
  have hg2 : w1.grownBy w2 (some w.heap.size) := by rw [← hw2]; exact grown_pset _ _ _
  have hX2 : Ex w w2 := Below.grown (HXA.out.trans hx1) hg2 (HXA.out.trans hx1).size (fun g hg => by simp only [Option.some.injEq] at hg; omega)
  have HX2 : Hid (Ex w w2) := hX2
  have HP2 : Hid (PAt w2 w.heap.size u) := (by rw [← hw2]; exact hP1.store u : PAt w2 w.heap.size u)
  have hLx : Pd.Lay (fun b => wA.heap.size ≤ b) (Pd.cut p3 1) w2 u := Pd.Lay.far (row := some w.heap.size) (fun b hb e => by simp only [Option.some.injEq] at e; have := HSA.out; omega) _ hL1 hg2
  obtain ⟨hp, lp, hpc⟩ := pr_mk (Pd.cut p3 1)
  have hFP : Pd.Fine (Pd.cut p3 1) := Pd.cut_fine _ HM3.out _
  have hFt := Pd.fit_cut1 p3
  rw [hpc] at hLx hFP hFt
  have HF : Hid (Pd.Fine (Pr.mk' hp lp)) := hFP
  have HFit : Hid (Pd.fit (Pr.mk' hp lp) 50 5000 = true) := hFt
  have HL2 : Hid (Pd.Lay (fun b => b < w2.heap.size) (Pr.mk' hp lp) w2 u) := Pd.Lay.mono (fun _ hb => hb.2) _ hLx.lt
  have HS2 : Hid (w.heap.size < w2.heap.size) := HP2.out.lt
  obtain ⟨f0, f1, f2, f3, f4, f5, f6⟩ := hP1.fro
  obtain ⟨d0, d1, d2, d3, d4, d5, d6⟩ := hP1.all
  simp only at d0 d1 d2 d3 d4 d5 d6
  have huk : u.k = hp.k := hLx.head.1.1.1
  have hucol : u.col = hp.col := hLx.head.1.1.2.1
  have HUk : Hid (u.k = hp.k) := huk
  have HUc : Hid (u.col = hp.col) := hucol
  have HB12 : Hid (RdC w2 p1 c1 l1) := HB1.out.below hX2
  clear hL1 hx1 hP1 hg2 hX2 hLx hFP hFt hpc huk hucol HCut p0' p1' p2' p3' p4' p5' p6' HPA HXA hwA
  simp only [pvv, sv]
  go_wp2_with fail
  clear f0 f1 f2 f3 f4 f5 f6 d0 d1 d2 d3 d4 d5 d6 hw2
  refine (made_is K a2 p1 n1 c1 l1 w2 HK.out HN1.out.symm HB12.out HM1.out).mono ?_
  rintro e2 w4 ⟨v2, rfl, X, hoX, hXl, hXn, hx2⟩
  obtain ⟨ax, cx, rfl, hRX⟩ := hoX.rd cc_len
  obtain ⟨nX, hnX⟩ : ∃ n, X.length = n := ⟨_, rfl⟩
  rw [hnX]
  have HNX : Hid (X.length = nX) := hnX
  have HNmX : Hid (∀ c ∈ X, Nrm K c) := hXn
  have HRX : Hid (RdC w4 ax cx X) := hRX
  have HX4 : Hid (Ex w2 w4) := hx2
  have hnX6 : nX ≤ 60 := by omega
  clear hoX hXl hXn hRX hnX hx2
  obtain ⟨bx, ex, hE⟩ : ∃ r e, Ck.encE K X = (r, e) := ⟨_, _, rfl⟩
  have HE : Hid (Ck.encE K X = (bx, ex)) := hE
  obtain ⟨rfl, hHX⟩ := Holds.of HK.out (by have := HNX.out; omega) HNmX.out hE
  have HHX : Hid (Holds K X bx) := hHX
  clear hE hHX
  go_wp2_with fail
  refine (rencode15_is K ax nX cx X w4 HNX.out.symm HRX.out (nrm_all HNmX.out).2.2 (fun c hc => (HNmX.out c hc).short) bx 0 HE.out).mono ?_
  rintro e5 w5 ⟨v5, rfl, ho5, hx5⟩
  obtain ⟨ab, cb', rfl, hb5⟩ := ho5.byt
  obtain ⟨nb, hnb⟩ : ∃ n, bx.length = n := ⟨_, rfl⟩
  rw [hnb]
  have HNb : Hid (bx.length = nb) := hnb
  have HBx5 : Hid (Byt w5 ab cb' bx) := hb5
  have HRX5 : Hid (RdC w5 ax cx X) := HRX.out.below hx5
  have HX5 : Hid (Ex w2 w5) := HX4.out.trans hx5
  clear ho5 hb5 hnb hx5
  go_wp2_with fail
  refine (open_is ab nb cb' bx w5 HNb.out.symm HBx5.out (by have := HHX.out.short; omega)).mono ?_
  rintro e6 w6 ⟨v6, rfl, hop, hx6⟩
  obtain ⟨g, fp, rfl, hok, hu, hg, hfp⟩ := hop.1 HHX.out.good
  have HOk : Hid (Ok bx) := hok
  have HX6 : Hid (Ex w2 w6) := HX5.out.trans hx6
  have HC6 : Hid (Chk w6 g bx fp) := .inl hu
  have hgw2 : w2.heap.size ≤ g := Nat.le_trans HX5.out.size hg
  have HGW2 : Hid (w2.heap.size ≤ g) := hgw2
  have HG6 : Hid (g < w6.heap.size) := Chk.lt (.inl hu)
  have HP6 : Hid (PAt w6 w.heap.size u) := HP2.out.below HX6.out
  have HL6 : Hid (Pd.Lay (fun b => b < w2.heap.size) (Pr.mk' hp lp) w6 u) := Pd.Lay.below _ HL2.out HX6.out
  have HRX6 : Hid (RdC w6 ax cx X) := HRX5.out.below hx6
  have HNe : Hid (0 < X.length → ∀ q off, ax = some ⟨q, off, none⟩ → q ≠ g) := (by
    intro h0 q off he
    obtain ⟨q', off', he', f0, _⟩ := RdC.four HRX5.out h0
    rw [he] at he'
    simp only [Option.some.injEq, Addr.mk.injEq, and_true] at he'
    have := World.block_lt_of_cell? _ _ f0
    simp only at this
    omega : 0 < X.length → ∀ q off, ax = some ⟨q, off, none⟩ → q ≠ g)
  have HLen : Hid ((LC bx).length = nX) := (by rw [HHX.out.cells]; exact HNX.out : (LC bx).length = nX)
  obtain ⟨p0, p1q, p2, p3q, p4, p5, p6⟩ := HP6.out.all
  clear hop hok hu hg hfp hx6 hgw2
  go_wp2_with fail
  have hww := where_is hp lp u true g bx fp w6 HC6.out HOk.out (Pd.Lay.mono (fun q hq => by have := HGW2.out; omega) _ HL6.out) HF.out HFit.out
  rw [HLen.out, HHX.out.cells] at hww
  unfold pvv at hww
  simp only [sv] at hww
  refine hww.mono ?_
  rintro e7 w7 ⟨h1, rfl, fp7, hC7, hf7, hR7, hh1, hg7⟩
  have HC7 : Hid (Chk w7 g bx fp7) := hC7
  have HR7 : Hid (RowAt bo 4 w7 h1 (X.map (wsay hp))) := hR7
  have HH1 : Hid (g < h1) := (by have := HG6.out; omega : g < h1)
  have HP7 : Hid (PAt w7 w.heap.size u) := HP6.out.far hg7 (by simp only [ne_eq, Option.some.injEq]; have h1 := HS2.out; have h2 := HGW2.out; omega)
  have HL7 : Hid (Pd.Lay (fun b => b < w2.heap.size) (Pr.mk' hp lp) w7 u) := Pd.Lay.far (row := some g) (fun q hq e => by simp only [Option.some.injEq] at e; have h2 := HGW2.out; omega) _ HL6.out hg7
  have HRX7 : Hid (RdC w7 ax cx X) := RdW.far HRX6.out hg7 (fun h0 q off he e => HNe.out h0 q off he (by simpa using e.symm))
  have HX7 : Hid (Ex w w7) := Below.grown (HX2.out.trans HX6.out) hg7 (HX2.out.trans HX6.out).size (fun k hk => by simp only [Option.some.injEq] at hk; have h1 := HS2.out; have h2 := HGW2.out; omega)
  obtain ⟨q0, q1, q2, q3, q4, q5, q6⟩ := HP7.out.all
  clear hww hC7 hf7 hR7 hh1 hg7 p0 p1q p2 p3q p4 p5 p6
  go_wp2_with fail
  have hww := where_is hp lp u false g bx fp7 w7 HC7.out HOk.out (Pd.Lay.mono (fun q hq => by have := HGW2.out; omega) _ HL7.out) HF.out HFit.out
  rw [HLen.out, HHX.out.cells] at hww
  unfold pvv at hww
  simp only [sv] at hww
  refine hww.mono ?_
  rintro e8 w8 ⟨h2, rfl, fp8, hC8, hf8, hR8, hh2, hg8⟩
  have HU8 : Hid (RowAt bo 4 w8 h1 (X.map (wsay hp))) := (by unfold RowAt; rw [hg8.block h1 HR7.out.lt (by simp only [ne_eq, Option.some.injEq]; have := HH1.out; omega)]; exact HR7.out : RowAt bo 4 w8 h1 (X.map (wsay hp)))
  have HV8 : Hid (RowAt bo 4 w8 h2 (X.map (wsay hp))) := hR8
  have HP8 : Hid (PAt w8 w.heap.size u) := HP7.out.far hg8 (by simp only [ne_eq, Option.some.injEq]; have h1 := HS2.out; have h2 := HGW2.out; omega)
  have HL8 : Hid (Pd.Lay (fun _ => True) (Pr.mk' hp lp) w8 u) := Pd.Lay.mono (fun _ _ => trivial) _ (Pd.Lay.far (row := some g) (fun q hq e => by simp only [Option.some.injEq] at e; have h2 := HGW2.out; omega) _ HL7.out hg8)
  have HRX8 : Hid (RdC w8 ax cx X) := RdW.far HRX7.out hg8 (fun h0 q off he e => HNe.out h0 q off he (by simpa using e.symm))
  have HX8 : Hid (Ex w w8) := Below.grown HX7.out hg8 HX7.out.size (fun k hk => by simp only [Option.some.injEq] at hk; have h1 := HS2.out; have h2 := HGW2.out; omega)
  clear hww hC8 hf8 hR8 hh2 hg8 q0 q1 q2 q3 q4 q5 q6
  go_wp2_with fail
  go_loopw [16, 17, 18, 19] (fun iv rv yv wv wr => ∃ i : Nat, i ≤ nX ∧ iv = .int .i64 (i : Int) ∧ Hid (Ex w8 wr)) (fun iv rv yv wv wr => nX - (intOf iv).toNat)
  case atStart => exact ⟨0, by omega, rfl, Ex.refl _⟩
  case round =>
    obtain ⟨i, hi, rfl, HX⟩ := hrel
    by_cases hlt : i < nX
    · have ti : (i : Int) < (nX : Int) := by omega
      have hltX : i < X.length := by rw [HNX.out]; exact hlt
      obtain ⟨bq, off, rfl, e0, e1, e2, e3⟩ := RdC.four (HRX8.out.below HX.out) hltX
      obtain ⟨d, hd⟩ : ∃ d, X[i] = d := ⟨_, rfl⟩
      rw [hd] at e0 e1 e2 e3
      have HNm : Hid (Nrm K d) := (by rw [← hd]; exact HNmX.out _ (List.getElem_mem hltX) : Nrm K d)
      have HL1 : Hid (∀ h0, (X.map (wsay hp))[i]'h0 = wsay hp d) := (fun h0 => by rw [List.getElem_map, hd] : ∀ h0, (X.map (wsay hp))[i]'h0 = wsay hp d)
      have HLm : Hid (i < (X.map (wsay hp)).length) := (by rw [List.length_map]; exact hltX : i < (X.map (wsay hp)).length)
      clear hd hltX
      go_upto_region 16 with fail
      obtain ⟨wR, hwR⟩ : ∃ wR, wr.alloc (.cells #[.int .i64 0, .int .i64 0, .slice none 0 0] 59) = wR := ⟨_, rfl⟩
      rw [hwR]
      have hXR : Ex wr wR := by rw [← hwR]; exact (Below.refl _ _).alloc (Nat.le_refl _) _
      have HXR : Hid (Ex wr wR) := hXR
      have hLR : LAt wR wr.heap.size ⟨0, 0, none, 0, 0⟩ := by rw [← hwR]; exact LAt.new wr ⟨0, 0, none, 0, 0⟩
      have HLR : Hid (LAt wR wr.heap.size ⟨0, 0, none, 0, 0⟩) := hLR
      have k0 := dcell_ex e0 hXR
      have k1 := dcell_ex e1 hXR
      have k2 := dcell_ex e2 hXR
      have k3 := dcell_ex e3 hXR
      have HPR : Hid (PAt wR w.heap.size u) := (HP8.out.below HX.out).below hXR
      clear hXR hLR e0 e1 e2 e3 hwR
      go_upto_if 76 with fail
      go_cut [18] (fun v wc => ∃ rv R, Hid (LAt wc wr.heap.size rv) ∧ Hid (RvOk wc rv R) ∧ Hid (∀ c ∈ R.c, c.s.length ≤ maxLen) ∧ Hid (askB hp.k = true → Pd.ev R (Pr.mk' hp lp) = Pd.leafC d hp) ∧ Hid (Ex wr wc))
      case first =>
        by_cases hk0 : d.k = 0
        · have t0 : (d.k != 0) = false := by simp [hk0]
          have HEv : Hid (askB hp.k = true → Pd.ev ⟨0, 0, []⟩ (Pr.mk' hp lp) = Pd.leafC d hp) := (by
            intro hak
            have h49 := askB_is hak
            rw [Pd.ev_ask lp h49.1 h49.2]
            have hdn : d = Rw.none_ := by
              rcases HNm.out with h | ⟨_, n, _, h⟩ | ⟨_, s, _, h⟩
              · exact h
              · rw [h] at hk0; simp at hk0
              · rw [h] at hk0; simp at hk0
            rw [hdn]
            rfl : askB hp.k = true → Pd.ev ⟨0, 0, []⟩ (Pr.mk' hp lp) = Pd.leafC d hp)
          have HRv : Hid (RvOk wR ⟨0, 0, none, 0, 0⟩ ⟨0, 0, []⟩) := (⟨rfl, rfl, rfl, RdW.nil _⟩ : RvOk wR ⟨0, 0, none, 0, 0⟩ ⟨0, 0, []⟩)
          have HSh : Hid (∀ c ∈ (⟨0, 0, []⟩ : Rw).c, c.s.length ≤ maxLen) := (by intro c hc; simp at hc : ∀ c ∈ (⟨0, 0, []⟩ : Rw).c, c.s.length ≤ maxLen)
          clear hk0
          go_wp2_with fail
          go_meet
          exact ⟨⟨0, 0, none, 0, 0⟩, ⟨0, 0, []⟩, HLR, HRv, HSh, HEv, HXR⟩
        · have t0 : (d.k != 0) = true := by simp [hk0]
          obtain ⟨wY, hwY⟩ : ∃ wY, wR.alloc (cb d) = wY := ⟨_, rfl⟩
          have hXY : Ex wr wY := by rw [← hwY]; exact Below.alloc HXR.out HXR.out.size _
          have hEY : EAt wY wR.heap.size d := by rw [← hwY]; exact EAt.new wR d
          obtain ⟨wZ, hwZ⟩ : ∃ wZ, wY.setCell ⟨wR.heap.size, 0, none⟩ (.string (str u.col)) = wZ := ⟨_, rfl⟩
          have hXZ : Ex wr wZ := by rw [← hwZ]; exact Below.setCell (p := ⟨wR.heap.size, 0, none⟩) hXY HXR.out.size _
          have hEZ : EAt wZ wR.heap.size ⟨u.col, d.k, d.n, d.s⟩ := by rw [← hwZ]; exact hEY.set (k := 0) rfl
          obtain ⟨wT, hwT⟩ : ∃ wT, wZ.alloc (.cells #[.string (str u.col), .int .i64 d.k, .int .i64 d.n, .string (str d.s)] 28) = wT := ⟨_, rfl⟩
          have hXT : Ex wr wT := by rw [← hwT]; exact Below.alloc hXZ hXZ.size _
          have hRT : RdC wT (some ⟨wZ.heap.size, 0, none⟩) 1 [⟨u.col, d.k, d.n, d.s⟩] := by rw [← hwT]; exact RdW.laid (t := 28) cc_len wZ [⟨u.col, d.k, d.n, d.s⟩] (by simp)
          have hwrR : wr.heap.size < wR.heap.size := HLR.out.lt
          have hwRY : wR.heap.size < wY.heap.size := hEY.lt
          have hYZ : wY.heap.size = wZ.heap.size := by rw [← hwZ]; simp
          have hLT : LAt wT wr.heap.size ⟨0, 0, none, 0, 0⟩ := by
            rw [← hwT, ← hwZ, ← hwY]
            exact ((HLR.out.alloc _).other (by omega)).alloc _
          obtain ⟨wU, hwU⟩ : ∃ wU, wT.setCell ⟨wr.heap.size, 2, none⟩ (.slice (some ⟨wZ.heap.size, 0, none⟩) 1 1) = wU := ⟨_, rfl⟩
          have HXU : Hid (Ex wr wU) := (by rw [← hwU]; exact Below.setCell (p := ⟨wr.heap.size, 2, none⟩) hXT (Nat.le_refl _) _ : Ex wr wU)
          have HLU : Hid (LAt wU wr.heap.size ⟨0, 0, some ⟨wZ.heap.size, 0, none⟩, 1, 1⟩) := (by rw [← hwU]; exact hLT.set (k := 2) rfl : LAt wU wr.heap.size ⟨0, 0, some ⟨wZ.heap.size, 0, none⟩, 1, 1⟩)
          have HRv : Hid (RvOk wU ⟨0, 0, some ⟨wZ.heap.size, 0, none⟩, 1, 1⟩ (Pd.rone hp d)) := (by
            refine ⟨rfl, rfl, rfl, ?_⟩
            unfold Pd.rone
            rw [← HUc.out, ← hwU]
            exact RdW.far hRT (grown_set1 _ _ _ _) (fun _ q off e e2 => by simp only [Option.some.injEq, Addr.mk.injEq] at e e2; omega) : RvOk wU ⟨0, 0, some ⟨wZ.heap.size, 0, none⟩, 1, 1⟩ (Pd.rone hp d))
          have HSh : Hid (∀ c ∈ (Pd.rone hp d).c, c.s.length ≤ maxLen) := (by intro c hc; simp only [Pd.rone, List.mem_singleton] at hc; subst hc; exact HNm.out.short : ∀ c ∈ (Pd.rone hp d).c, c.s.length ≤ maxLen)
          have HEv : Hid (askB hp.k = true → Pd.ev (Pd.rone hp d) (Pr.mk' hp lp) = Pd.leafC d hp) := (fun hak => Pd.ev_rone lp (askB_is hak).1 (askB_is hak).2 d : askB hp.k = true → Pd.ev (Pd.rone hp d) (Pr.mk' hp lp) = Pd.leafC d hp)
          have a1 := (HPR.out.below ((Below.refl _ _).alloc (Nat.le_refl _) (cb d))).all.2.1
          rw [hwY] at a1
          have b0 := hEY.all.1
          have b0f := hEY.fro.1
          obtain ⟨z0, z1, z2, z3⟩ := hEZ.all
          simp only at z0 z1 z2 z3
          have l2 := hLT.all.2.2
          have l2f := hLT.fro.2.2
          simp only at l2
          clear hk0 hXY hEY hXZ hEZ hXT hRT hwrR hwRY hYZ hLT
          go_wp2_with fail
          go_meet
          exact ⟨_, Pd.rone hp d, HLU, HRv, HSh, HEv, HXU⟩
      case rest =>
        obtain ⟨⟨rt, rq, ra, rn, rc'⟩, R, HLA, HRv, HRs, HEv, HXc⟩ := hcut
        clear k0 k1 k2 k3
        have HX8c : Hid (Ex w8 wc) := HX.out.trans HXc.out
        have HPc : Hid (PAt wc w.heap.size u) := HP8.out.below HX8c.out
        have HLc : Hid (Pd.Lay (fun _ => True) (Pr.mk' hp lp) wc u) := Pd.Lay.below _ HL8.out HX8c.out
        obtain ⟨a0', a1', a2', a3', a4', a5', a6'⟩ := HPc.out.all
        obtain ⟨r0', r1', r2'⟩ := HLA.out.all
        simp only at r0' r1' r2'
        have huk := HUk.out
        have hsay := HL1.out HLm.out
        by_cases hak : askB hp.k = true
        · have h49 := askB_is hak
          have t4 : (4 : Int) ≤ u.k := by omega
          have t9 : u.k ≤ (9 : Int) := by omega
          obtain ⟨o, ho⟩ : ∃ o, Pd.leafC d hp = o := ⟨_, rfl⟩
          rw [wsay_yes hak, ho] at hsay
          have hev : Pd.ev R (Pr.mk' hp lp) = o := (HEv.out hak).trans ho
          have HC25 : Hid (Calls Tryz.prog 25 #[pvv u, rvv ⟨rt, rq, ra, rn, rc'⟩] wc fun e w' => e = .returned (.bool o) ∧ Ex wc w') := reval_ask R HRs.out hp lp HF.out h49.1 h49.2 u _ wc o HLc.out HRv.out hev
          have HEvo : Hid (Pd.ev R (Pr.mk' hp lp) = o) := hev
          have HSay : Hid ((X.map (wsay hp))[i]'HLm.out = o) := hsay
          clear h49 ho hev hsay hak huk
          go_wp2_with fail
          have hc := HC25.out
          unfold pvv rvv at hc
          simp only [sv] at hc
          refine hc.mono ?_
          rintro e wd ⟨rfl, hxd⟩
          have HX8d : Hid (Ex w8 wd) := HX8c.out.trans hxd
          have hUd := RowAt.cell (HU8.out.below HX8d.out) HLm.out
          have hVd := RowAt.cell (HV8.out.below HX8d.out) HLm.out
          rw [HSay.out] at hUd hVd
          unfold bo at hUd hVd
          have HPd : Hid (PAt wd w.heap.size u) := HPc.out.below hxd
          have HC26 : Hid (Calls Tryz.prog 26 #[pvv u, rvv ⟨rt, rq, ra, rn, rc'⟩] wd fun e w' => e = .returned (.bool o) ∧ Ex wd w') := ev_is (Pr.mk' hp lp) R u _ wd (Pd.Lay.below _ HLc.out hxd) HF.out (HRv.out.below hxd) HRs.out HFit.out o HEvo.out
          obtain ⟨s0, s1, s2, s3, s4, s5, s6⟩ := HPd.out.all
          obtain ⟨x0, x1, x2⟩ := (HLA.out.below hxd).all
          simp only at x0 x1 x2
          clear hc hxd a0' a1' a2' a3' a4' a5' a6' r0' r1' r2' HC25
          cases o with
          | true =>
            go_wp2_with fail
            have hc := HC26.out
            unfold pvv rvv at hc
            simp only [sv] at hc
            refine hc.mono ?_
            rintro e we ⟨rfl, hxe⟩
            have HX8e : Hid (Ex w8 we) := HX8d.out.trans hxe
            clear hc hxe
            go_wp2_with fail
            go_roundw
            case rel => exact ⟨i + 1, by omega, by go_num, HX8e⟩
            case measure => simp [intOf]; omega
          | false =>
            go_wp2_with fail
            have hc := HC26.out
            unfold pvv rvv at hc
            simp only [sv] at hc
            refine hc.mono ?_
            rintro e we ⟨rfl, hxe⟩
            have HX8e : Hid (Ex w8 we) := HX8d.out.trans hxe
            clear hc hxe
            go_wp2_with fail
            go_roundw
            case rel => exact ⟨i + 1, by omega, by go_num, HX8e⟩
            case measure => simp [intOf]; omega
        · have hak' : askB hp.k = false := by simpa using hak
          have hnw : wsay hp d = false := by simp [wsay, hak']
          rw [hnw] at hsay
          have tt : ¬ (4 : Int) ≤ u.k ∨ ((4 : Int) ≤ u.k ∧ ¬ u.k ≤ (9 : Int)) := by
            unfold askB at hak'
            rw [decide_eq_false_iff_not] at hak'
            omega
          have hUd := RowAt.cell (HU8.out.below HX8c.out) HLm.out
          have hVd := RowAt.cell (HV8.out.below HX8c.out) HLm.out
          rw [hsay] at hUd hVd
          unfold bo at hUd hVd
          clear hak hak' hnw hsay huk
          rcases tt with t4 | ⟨t4, t9⟩
          · go_wp2_with fail
            go_roundw
            case rel => exact ⟨i + 1, by omega, by go_num, HX8c⟩
            case measure => simp [intOf]; omega
          · go_wp2_with fail
            go_roundw
            case rel => exact ⟨i + 1, by omega, by go_num, HX8c⟩
            case measure => simp [intOf]; omega
    · have ti : ¬ (i : Int) < (nX : Int) := by omega
      go_wp2_with fail
      refine (known_is wr).mono ?_
      rintro ek wk ⟨rfl, hxk⟩
      go_wp2_with fail
      go_ret
      exact ⟨rfl, (HX8.out.trans HX.out).trans hxk⟩
end Go.Proofs.YtnmonoafjijfhaaGreat.chunkWhere
