/-
  The walk of the law BlockJoins: whatever texts and bytes it is given (of bulk at most 1048576), it returns true.
-/
import Derived.Test.YthibeoohhcmejaaBlockCutsWalk
import Derived.Test.YthibeoohhcmejaaTwo
namespace Go.Proofs.Ythibeoohhcmejaa.blockJoins
open Go.RowKit blockCuts
set_option linter.unusedVariables false

/-- Lists that were there before, appended to a newer slice of lists. -/
theorem append_texts {w0 w w' : World} {v v' : Value} {vs us : List SV} {L M : List (List UInt8)} (hE : Each w vs L) (hA : Away v.ownBlock vs) (hM : Each w0 us M) (hx : Ex w0 w) (hnew : ∀ g, v.ownBlock = some g → w0.heap.size ≤ g)
    (hg : w.grownBy w' v.ownBlock) (hat : v'.ownBlock = v.ownBlock ∨ v'.ownBlock = some w.heap.size) : Each w' (vs ++ us) (L ++ M) ∧ Away v'.ownBlock (vs ++ us) := by
  have hall : Each w (vs ++ us) (L ++ M) := by
    refine ⟨by simp [hE.1, hM.1], fun i s x h1 h2 => ?_⟩
    by_cases hi : i < vs.length
    · rw [List.getElem?_append_left hi] at h1
      rw [List.getElem?_append_left (by rw [← hE.1]; exact hi)] at h2
      exact hE.2 i s x h1 h2
    · rw [List.getElem?_append_right (by omega)] at h1
      rw [List.getElem?_append_right (by rw [← hE.1]; omega), ← hE.1] at h2
      exact (hM.2 _ s x h1 h2).below hx
  have haw : Away v.ownBlock (vs ++ us) := by
    intro s hs h0 q hq hh
    rcases List.mem_append.1 hs with h | h
    · exact hA s h h0 q hq hh
    · obtain ⟨i, hi⟩ := List.getElem?_of_mem h
      have hil : i < M.length := by rw [← hM.1]; exact (List.getElem?_eq_some_iff.1 hi).1
      obtain ⟨q', off, e, hlt⟩ := (hM.2 i s _ hi (List.getElem?_eq_getElem hil)).block h0
      have h1 := hnew q hh
      simp [sv, e, Value.ownBlock] at hq
      omega
  refine ⟨⟨hall.1, fun i t y h1 h2 => (hall.2 i t y h1 h2).far hg (haw t (List.mem_of_getElem? h1))⟩, fun t ht h0 q hq => ?_⟩
  rcases hat with hat | hat
  · rw [hat]; exact haw t ht h0 q hq
  · rw [hat]
    obtain ⟨i, hi⟩ := List.getElem?_of_mem ht
    have hil : i < (L ++ M).length := by rw [← hall.1]; exact (List.getElem?_eq_some_iff.1 hi).1
    obtain ⟨q', off, e, hlt⟩ := (hall.2 i t _ hi (List.getElem?_eq_getElem hil)).block h0
    have : q = q' := by simp [sv, e, Value.ownBlock] at hq; omega
    intro hh
    simp at hh
    omega
theorem allF_len (f : Nat) (b : List UInt8) : 12 * (K.allF f b).1.length ≤ (K.allF f b).2.1 ∧ (K.allF f b).2.1 ≤ b.length := by
  induction f generalizing b with
  | zero => simp [K.allF]
  | succ f ih =>
    simp only [K.allF]
    split
    · simp
    · split
      · simp
      · rename_i h0 h1
        have hs := K.opn_step (b := b) (by simpa using h1)
        have hi := ih (b.drop (K.opn b).2.1)
        simp only [List.length_drop] at hi
        simp only [List.length_cons]
        omega
theorem all_len {b : List UInt8} {R : List (List UInt8)} {T E : Nat} (h : K.all b = (R, T, E)) : 12 * R.length ≤ T ∧ T ≤ b.length := by
  have := allF_len b.length b
  unfold K.all at h
  rw [h] at this
  exact this
theorem opens_at {L : List (List UInt8)} (hs : ∀ x ∈ L, x.length ≤ 1048576) {q : Nat} (hq : q < L.length) : K.opens (K.written L) ((K.written (L.take q)).length : Int) = (L[q], (K.written (L.take (q + 1))).length, 0) := by
  have e : K.written L = K.written (L.take q) ++ (K.frm L[q] ++ K.written (L.drop (q + 1))) := by
    rw [← K.written_cons, ← List.drop_eq_getElem_cons hq, ← written_app, List.take_append_drop]
  have hle := written_take_le L q
  unfold K.opens
  rw [if_neg (by omega), Int.toNat_natCast]
  have hd : (K.written L).drop (K.written (L.take q)).length = K.frm L[q] ++ K.written (L.drop (q + 1)) := by
    conv => lhs; rw [e]
    rw [List.drop_left]
  rw [hd, K.opn_frm (hs _ (List.getElem_mem hq)), written_take L q hq]
  simp; omega

/-- A guarded operation whose guard says yes is carried out as if it had none. -/
theorem wpList_unguard {P : Program} {ops : Array Oper} {Q : Exit → Act → World → Prop} {a : Act} {w : World} {rest : List Oper} {o : Oper} (hw : Region.wanted o (yielded ops a.tmps) = true)
    (h : wpList P ops Q ({ o with guard := none } :: rest) a w) : wpList P ops Q (o :: rest) a w := by
  unfold wpList at h ⊢
  rw [if_pos hw]
  rw [if_pos (by simp [Region.wanted])] at h
  exact h

set_option maxRecDepth 100000 in
set_option maxHeartbeats 4000000 in
theorem walk (p0 : Option Addr) (c0 : Nat) (l0 : List (List UInt8)) (p1 : Option Addr) (c1 : Nat) (l1 : List (List UInt8)) (p2 : Option Addr) (c2 : Nat) (l2 : List UInt8) (w : World) (b0 : Rd st w p0 c0 l0) (m0 : ∀ x ∈ l0, x.length ≤ maxLen) (b1 : Rd st w p1 c1 l1) (m1 : ∀ x ∈ l1, x.length ≤ maxLen) (b2 : Byt w p2 c2 l2) (w2 : l2.length ≤ 1048576) :
    Calls Try.prog 7 #[.slice p0 l0.length c0, .slice p1 l1.length c1, .slice p2 l2.length c2] w fun e w' => e = .returned (.bool true) ∧ Below w.heap.size w w' := by
  obtain ⟨base, hbase⟩ : ∃ base, base = w.heap.size := ⟨_, rfl⟩
  have HBa : Hid (base = w.heap.size) := hbase
  obtain ⟨L, hL⟩ : ∃ L, cutTexts l0 = L := ⟨_, rfl⟩
  obtain ⟨X, hX⟩ : ∃ X, K.written L = X := ⟨_, rfl⟩
  obtain ⟨M, hM⟩ : ∃ M, K.written (cutTexts l1) = M := ⟨_, rfl⟩
  obtain ⟨Y, hY⟩ : ∃ Y, M ++ l2 = Y := ⟨_, rfl⟩
  obtain ⟨Z, hZ⟩ : ∃ Z, X ++ Y = Z := ⟨_, rfl⟩
  have hLs : ∀ x ∈ L, x.length ≤ 200 := by rw [← hL]; exact cutTexts_short l0
  have hLl : L.length ≤ 10 := by rw [← hL, cutTexts_len]; omega
  have hXl : X.length ≤ 2120 := by rw [← hX]; have := written_short L hLs; omega
  have hMl : M.length ≤ 2120 := by
    rw [← hM]
    have h1 := written_short (cutTexts l1) (cutTexts_short l1)
    have h2 := cutTexts_len l1
    omega
  have hYl : Y.length ≤ 1050696 := by rw [← hY]; simp; omega
  have hZl : Z.length ≤ 1052816 := by rw [← hZ]; simp; omega
  have hLs2 : ∀ x ∈ L, x.length ≤ 1048576 := fun x hx => Nat.le_trans (hLs x hx) (by omega)
  obtain ⟨⟨P, kk, ee⟩, hP⟩ : ∃ r, K.all Y = r := ⟨_, rfl⟩
  have hPl := all_len hP
  have hPlen : P.length ≤ 1050696 := by omega
  have hkk : kk ≤ 1050696 := by omega
  have hWX := K.all_whole L hLs2
  rw [hX] at hWX
  have hWZ := K.all_written L hLs2 Y
  rw [hX, hP, hZ] at hWZ
  simp only at hWZ
  have HL : Hid (cutTexts l0 = L) := hL
  have HX : Hid (K.written L = X) := hX
  have HXw : Hid (K.written (cutTexts l0) = X) := (by rw [hL]; exact hX : K.written (cutTexts l0) = X)
  have HM : Hid (K.written (cutTexts l1) = M) := hM
  have HY : Hid (M ++ l2 = Y) := hY
  have HZ : Hid (X ++ Y = Z) := hZ
  have HP : Hid (K.all Y = (P, kk, ee)) := hP
  have HWX : Hid (K.all X = (L, X.length, 0)) := hWX
  have HWZ : Hid (K.all Z = (L ++ P, X.length + kk, ee)) := hWZ
  have HLs : Hid (∀ x ∈ L, x.length ≤ 1048576) := hLs2
  have H0 : Hid (Rd st w p0 c0 l0) := b0
  have HS0 : Hid (∀ x ∈ l0, x.length ≤ maxLen) := m0
  have H1 : Hid (Rd st w p1 c1 l1) := b1
  have HS1 : Hid (∀ x ∈ l1, x.length ≤ maxLen) := m1
  have HB2 : Hid (Byt w p2 c2 l2) := b2
  clear b0 b1 b2 m0 m1 hL hX hM hY hZ hP hWX hWZ hLs hLs2 hbase hPl
  go_enter Try.func7, Try.ntmps7
  go_wp2_with fail
  refine (written_is p0 _ c0 l0 _ rfl H0.out HS0.out X HXw.out).mono ?_
  rintro e w1 ⟨v7, rfl, ho7, hx1⟩
  obtain ⟨a7, c7, hv7, hb7⟩ := ho7.byt
  subst hv7
  have HB7 : Hid (Byt w1 a7 c7 X) := hb7
  have HX1 : Hid (Ex w w1) := hx1
  clear ho7 hb7 hx1
  go_wp2_with fail
  refine (written_is p1 _ c1 l1 _ rfl (H1.out.below HX1.out) HS1.out M HM.out).mono ?_
  rintro e w3 ⟨v26, rfl, ho26, hx3⟩
  have hb2' := HB2.out.below (HX1.out.trans hx3)
  have h13 : w1.heap.size ≤ w3.heap.size := hx3.size
  go_wp2_with (at_builtin; refine wpList_append_byt rfl (.tmp 26) (.tmp 27) rfl w1.heap.size _ M rfl ho26 p2 _ c2 l2 rfl rfl hb2' (by omega) h13 ?_; intro v8 w4 ho8 hg8; have hx14 : Ex w1 w4 := step_below0 hx3 h13 ho26 hg8; clear hg8; rw [HY.out] at ho8; obtain ⟨a8, c8, hv8, hb8⟩ := ho8.byt; subst hv8)
  have HX4 : Hid (Ex w w4) := HX1.out.trans hx14
  have HB74 : Hid (Byt w4 a7 c7 X) := HB7.out.below hx14
  have HB8 : Hid (Byt w4 a8 c8 Y) := hb8
  clear ho26 hx3 hb2' h13 ho8 hb8 hx14 HB7
  refine (all_is a8 _ c8 Y _ rfl HB8.out (by omega) P kk ee HP.out).mono ?_
  rintro e w5 ⟨v9, rfl, ⟨a9, c9, rfl, hb9⟩, hx5⟩
  have HX5 : Hid (Ex w w5) := HX4.out.trans hx5
  have HB75 : Hid (Byt w5 a7 c7 X) := HB74.out.below hx5
  have HB85 : Hid (Byt w5 a8 c8 Y) := HB8.out.below hx5
  have HB9 : Hid (RdB w5 a9 c9 P) := hb9
  clear hb9 hx5 HB74 HB8
  go_wp2_with (first
    | (refine wpList_build_own rfl 36 rfl 0 [] rfl (by decide) (fun _ => by kernel_rfl) w5.heap.size (Nat.le_refl _) ?_; intro g36 w36 ho36 hx36)
    | (at_builtin; refine wpList_append_byt rfl (.tmp 36) (.tmp 37) rfl w5.heap.size _ [] rfl ho36 a7 _ c7 X rfl rfl (HB75.out.below hx36) (by simp; omega) (Ex.size hx36) ?_; intro v38 w38 ho38 hg38; have hx38 : Ex w5 w38 := step_below0 hx36 (Ex.size hx36) ho36 hg38; clear hg38; rw [List.nil_append] at ho38)
    | (at_builtin; refine wpList_append_byt rfl (.tmp 38) (.tmp 39) rfl w5.heap.size _ X rfl ho38 a8 _ c8 Y rfl rfl (HB85.out.below hx38) (by omega) (Ex.size hx38) ?_; intro v40 w40 ho40 hg40; have hx40 : Ex w5 w40 := step_below0 hx38 (Ex.size hx38) ho38 hg40; clear hg40; rw [HZ.out] at ho40; obtain ⟨a40, c40, hv40, hb40⟩ := ho40.byt; subst hv40))
  have HX40 : Hid (Ex w w40) := HX5.out.trans hx40
  have HB740 : Hid (Byt w40 a7 c7 X) := HB75.out.below hx40
  have HB940 : Hid (RdB w40 a9 c9 P) := HB9.out.below hx40
  have HB40 : Hid (Byt w40 a40 c40 Z) := hb40
  clear ho36 hx36 ho38 hx38 ho40 hb40 hx40 HB75 HB85 HB9
  refine (all_is a40 _ c40 Z _ rfl HB40.out (by omega) (L ++ P) (X.length + kk) ee HWZ.out).mono ?_
  rintro e w9 ⟨v12, rfl, ⟨a12, c12, rfl, hb12⟩, hx9⟩
  have HB79 : Hid (Byt w9 a7 c7 X) := HB740.out.below hx9
  have HB99 : Hid (RdB w9 a9 c9 P) := HB940.out.below hx9
  have HB12 : Hid (RdB w9 a12 c12 (L ++ P)) := hb12
  have HX9 : Hid (Ex w w9) := HX40.out.trans hx9
  clear hb12 hx9 HB740 HB940 HB40
  obtain ⟨LP, hLP⟩ : ∃ LP, L ++ P = LP := ⟨_, rfl⟩
  have HLP : Hid (L ++ P = LP) := hLP
  rw [hLP]
  rw [hLP] at HB12
  clear hLP
  go_wp2_with fail
  refine (all_is a7 _ c7 X _ rfl HB79.out (by omega) L X.length 0 HWX.out).mono ?_
  rintro e w10 ⟨v15, rfl, ⟨a15, c15, rfl, hb15⟩, hx10⟩
  have HX10 : Hid (Ex w w10) := HX9.out.trans hx10
  have HB7a : Hid (Byt w10 a7 c7 X) := HB79.out.below hx10
  have HB9a : Hid (RdB w10 a9 c9 P) := HB99.out.below hx10
  have HB12a : Hid (RdB w10 a12 c12 LP) := HB12.out.below hx10
  have HB15 : Hid (RdB w10 a15 c15 L) := hb15
  have h15 := hb15.bounds
  have h15a := h15.1
  have h15b := h15.2
  unfold maxLen at h15b
  have h9 := HB9a.out.bounds
  have h9a := h9.1
  have h9b := h9.2
  unfold maxLen at h9b
  have h12 := HB12a.out.bounds
  have h12a := h12.1
  have h12b := h12.2
  unfold maxLen at h12b
  have hc7 := HB7a.out.1
  have hc7m := HB7a.out.2.1
  unfold maxLen at hc7m
  obtain ⟨us, hr15, he15⟩ := HB15.out
  obtain ⟨ps, hr9, he9⟩ := HB9a.out
  have hus : L.length = us.length := he15.1.symm
  have hps : P.length = ps.length := he9.1.symm
  have hpsl : ps.length ≤ 1050696 := by omega
  have husl : us.length ≤ 10 := by omega
  have HUS : Hid (L.length = us.length) := hus
  have HPS : Hid (P.length = ps.length) := hps
  have hO0 : OwnR 22 sv (w10.alloc (.cells #[] 22)) w10.heap.size (.slice (some ⟨w10.heap.size, 0, none⟩) 0 0) [] := OwnR.empty w10 _ (Nat.le_refl _)
  have hxa : Ex w10 (w10.alloc (.cells #[] 22)) := (Below.refl _ _).alloc (Nat.le_refl _) _
  have hsa : w10.heap.size ≤ (w10.alloc (.cells #[] 22)).heap.size := hxa.size
  have hnew0 : ∀ g, (Value.slice (some ⟨w10.heap.size, 0, none⟩) 0 0).ownBlock = some g → w10.heap.size ≤ g := by
    intro g hg
    simp [Value.ownBlock] at hg
    omega
  clear hus hps hb15 h15 h9 h12 hx10 HB79 HB99 HB12
  go_wp2_with (first
    | (at_builtin; refine wpList_unguard rfl ?_; refine wpList_append_rd_at (e := 22) (enc := sv) rfl (.tmp 74) (.tmp 75) 28 rfl (none, 0, 0) 24 Try.underlying28 Try.info22 rfl (fun _ => rfl) w10.heap.size _ [] rfl hO0 a15 _ c15 us rfl HUS.out (hr15.below hxa) (by simp [maxLen]; omega) (by simp; omega) hsa ?_; intro v76 w76 ho76 hg76 hat76; have hp76 := append_texts (Each.nil _) (Away.nil _) he15 hxa hnew0 hg76 hat76; have hx76 : Ex w10 w76 := step_belowR hxa hsa hO0 hg76; have hn76 : ∀ g, v76.ownBlock = some g → w10.heap.size ≤ g := (fun g hg => (World.ownsRow.lt ho76 g hg).1); clear hg76 hat76)
    | (at_builtin; refine wpList_unguard rfl ?_; refine wpList_append_rd_at (e := 22) (enc := sv) rfl (.tmp 76) (.tmp 77) 28 rfl (none, 0, 0) 24 Try.underlying28 Try.info22 rfl (fun _ => rfl) w10.heap.size _ _ rfl ho76 a9 _ c9 ps rfl HPS.out (hr9.below hx76) (by simp [maxLen]; omega) (by simp; omega) hx76.size ?_; intro v78 w78 ho78 hg78 hat78; have hp78 := append_texts hp76.1 hp76.2 he9 hx76 hn76 hg78 hat78; have hx78 : Ex w10 w78 := step_belowR hx76 hx76.size ho76 hg78))
  have hB78 : IsRdB LP v78 w78 := by
    obtain ⟨a, cap, hv, hr⟩ := ho78.rd
    refine ⟨a, cap, ?_, ⟨_, hr, ?_⟩⟩
    · rw [hv, ← HLP.out]
      have h1 := hp78.1.1
      simp only [List.nil_append] at h1 ⊢
      rw [h1]
    · rw [← HLP.out]; exact hp78.1
  obtain ⟨a78, c78, rfl, hb78⟩ := hB78
  have HB12c : Hid (RdB w78 a12 c12 LP) := HB12a.out.below hx78
  have HB15c : Hid (RdB w78 a15 c15 L) := RdB.below (show RdB w10 a15 c15 L from ⟨us, hr15, he15⟩) hx78
  have HX78 : Hid (Ex w w78) := HX10.out.trans hx78
  have HB7c : Hid (Byt w78 a7 c7 X) := HB7a.out.below hx78
  clear hO0 hxa hsa hnew0 ho76 hp76 hx76 hn76 ho78 hg78 hat78 hp78 hr15 he15 hr9 he9 hx78 HB7a HB9a HB12a HB15
  refine (alike_is a12 a78 _ _ c12 c78 LP LP _ rfl rfl HB12c.out hb78 true (by simp)).mono ?_
  rintro e w11 ⟨rfl, hx11⟩
  have HX11 : Hid (Ex w w11) := HX78.out.trans hx11
  have HB15d : Hid (RdB w11 a15 c15 L) := HB15c.out.below hx11
  have HB7d : Hid (Byt w11 a7 c7 X) := HB7c.out.below hx11
  clear hb78 hx11 HB12c HB15c HB7c HX78
  go_wp2_with fail
  go_loopw [18, 19] (fun zz i wr => ∃ q z : Nat, q ≤ L.length ∧ z ≤ X.length ∧ i = .int .i64 q ∧ zz = .int .i64 z ∧ Hid (z = (K.written (L.take q)).length) ∧ Hid (Ex w11 wr)) (fun _ i _ => L.length - (intOf i).toNat)
  case atStart => exact ⟨0, 0, by omega, by omega, rfl, rfl, (by simp [K.written] : 0 = (K.written (L.take 0)).length), Ex.refl _⟩
  case round =>
    obtain ⟨q, z, hq, hz, rfl, rfl, HZ', HEx⟩ := hrel
    by_cases hlt : q < L.length
    · have tq : decide ((q : Int) < (L.length : Int)) = true := by simp; omega
      obtain ⟨b1, o1, q1, d1, rfl, hce1, hbx1⟩ := (HB15d.out.below HEx.out).at hlt
      obtain ⟨x, hx⟩ : ∃ x, x = L[q] := ⟨_, rfl⟩
      obtain ⟨z2, hz2⟩ : ∃ z2, z2 = (K.written (L.take (q + 1))).length := ⟨_, rfl⟩
      have hop := opens_at HLs.out hlt
      rw [← HZ'.out, HX.out, ← hx, ← hz2] at hop
      have hzz : z2 = z + 12 + x.length := by rw [hz2, written_take L q hlt, HZ'.out, hx]
      have hz2l : z2 ≤ X.length := by
        have h1 := written_take_le L (q + 1)
        rw [← hz2, HX.out] at h1
        exact h1
      rw [← hx] at hce1 hbx1
      have HOp : Hid (K.opens X (z : Int) = (x, z2, 0)) := hop
      have HZ2 : Hid (z2 = (K.written (L.take (q + 1))).length) := hz2
      have hzlt : z < z2 := by omega
      have hk1 : (q : Int) < (L.length : Int) := by omega
      have hxl : x.length ≤ X.length := by omega
      clear hop hzz hz2
      go_wp2_with fail
      refine (open_is a7 _ c7 X (z : Int) _ rfl (HB7d.out.below HEx.out) (by omega) (by omega) (by omega) x z2 0 HOp.out).mono ?_
      rintro e w12 ⟨v20, rfl, ⟨a20, c20, rfl, hb20⟩, hx12⟩
      have HX20 : Hid (Byt w12 a20 c20 x) := hb20
      have HC1 : Hid (w12.cell? ⟨b1, o1 + q, none⟩ = some (.slice q1 x.length d1)) := cell_ex hce1 hx12
      have HXb : Hid (Byt w12 q1 d1 x) := hbx1.below hx12
      have HE12 : Hid (Ex w11 w12) := HEx.out.trans hx12
      have tz : decide ((z2 : Int) ≤ (z : Int)) = false := by simp; omega
      clear hb20 hce1 hbx1 hx12 hx
      go_wp2_with fail
      have hre := Ex.refl
      refine Rg.wp_rows [.inl (Value.int IntKind.i64 0), .inl (.bool false), .inl (.bool false), .inl (Value.slice a20 x.length c20), .inl (Value.string (str x)), .inl (Value.slice (some { block := b1, off := o1 }) L.length c15), .inl (Value.int IntKind.i64 ↑q), .inl (Value.pointer (some ⟨b1, o1 + q, none⟩)), .inl (Value.slice q1 x.length d1), .inl (Value.string (str x)), .inl (.bool false), .inl (.bool false), .inl (.bool false), .inl (Value.int IntKind.i64 ↑z2), .inl (Value.int IntKind.i64 ↑z), .inl (.bool false), .inl (.bool false)] (Ex w12) Ex 120 (by kernel_rfl) rfl (by kernel_rfl) ?st hre (Ex.drew _) ?goods ?fin
      case st => exact trivial
      case goods =>
        refine Rg.goods_cons (Rg.good_move hre rfl rfl rfl) ?_
        refine Rg.goods_cons (Rg.good_bin hre rfl rfl rfl rfl (fun _ => rfl) (fun w => by go_simp)) ?_
        refine Rg.goods_cons (Rg.good_move hre rfl rfl rfl) ?_
        refine Rg.goods_cons (Rg.good_move hre rfl rfl rfl) ?_
        refine Rg.goods_cons (Rg.good_conv hre rfl rfl (by rintro u wx hC rfl; exact conv_row ⟨a20, c20, rfl, HX20.out.below hC⟩)) ?_
        refine Rg.goods_cons (Rg.good_move hre rfl rfl rfl) ?_
        refine Rg.goods_cons (Rg.good_move hre rfl rfl rfl) ?_
        refine Rg.goods_cons (Rg.good_index hre rfl rfl rfl rfl (fun wx hC => by go_simp)) ?_
        refine Rg.goods_cons (Rg.good_load hre rfl rfl rfl (fun wx hC => by have hcz := cell_ex HC1.out hC; go_simp)) ?_
        refine Rg.goods_cons (Rg.good_conv hre rfl rfl (by rintro u wx hC rfl; exact conv_row ⟨q1, d1, rfl, HXb.out.below hC⟩)) ?_
        refine Rg.goods_cons (Rg.good_bin hre rfl rfl rfl rfl (fun _ => rfl) (fun w => by go_simp)) ?_
        refine Rg.goods_cons (Rg.good_pick false hre rfl rfl rfl rfl) ?_
        refine Rg.goods_cons (Rg.good_move hre rfl rfl rfl) ?_
        refine Rg.goods_cons (Rg.good_move hre rfl rfl rfl) ?_
        refine Rg.goods_cons (Rg.good_move hre rfl rfl rfl) ?_
        refine Rg.goods_cons (Rg.good_bin hre rfl rfl rfl rfl (fun _ => rfl) (fun w => by go_simp)) ?_
        refine Rg.goods_cons (Rg.good_pick false hre rfl rfl rfl rfl) ?_
        exact Rg.goods_nil
      case fin =>
        intro wx hx
        simp only [Rg.later, Act.put, List.setIfInBounds_toArray, List.set_cons_succ, List.set_cons_zero]
        have HXx : Hid (Ex w11 wx) := HE12.out.trans hx
        clear hx
        go_wp2
        go_roundw
        case rel => exact ⟨q + 1, z2, by omega, by omega, by go_num, rfl, HZ2, HXx⟩
        case measure => simp [intOf]; omega
    · obtain rfl : q = L.length := by omega
      have hzX : z = X.length := by rw [HZ'.out, List.take_length, HX.out]
      have tz : ((z : Int) == (X.length : Int)) = true := beq_iff_eq.2 (by omega)
      have hz1 : z ≤ X.length := by omega
      have hz2 : X.length ≤ z := by omega
      have HExF : Hid (Ex w wr) := HX11.out.trans HEx.out
      clear hzX
      go_wp2_with fail
      refine (known_any _).mono ?_
      rintro e w13 ⟨rfl, hx13⟩
      go_wp2
      go_ret
      exact ⟨rfl, HExF.out.trans hx13⟩
end Go.Proofs.Ythibeoohhcmejaa.blockJoins
