/-
  The landed chunk's Encode. Rows of cells in a block of their own; the landed column's cell, all; kindOf; bytes.Equal.
-/
import Derived.Test.YtnmonoafjijfhaaGreatM44
namespace Go.Proofs.YtnmonoafjijfhaaGreat
open Go.RowKit
set_option linter.unusedVariables false
set_option linter.unusedSimpArgs false
theorem hd_len (f : Nat) (l : List Ce) (h : l.length ≤ 65536) : (Ck.hd f l).length ≤ 4000000 := by
  have h1 := (M.digs_len f).2
  have h2 := (M.digs_len l.length).2
  have h3 := enc_len (w := 1) (by omega) _ (Ck.marks l) (Nat.le_refl _)
  rw [Ck.marks_len] at h3
  unfold Ck.hd
  simp only [List.length_append]
  omega
theorem txts_40 {l : List Ce} (hf : l.all (Ck.fits 2) = true) : ∀ s ∈ Ck.txts l, s.length ≤ 40 := by
  intro s hs
  simp only [Ck.txts, List.mem_map] at hs
  obtain ⟨c, hc, rfl⟩ := hs
  have := Ck.vals_kind hf c hc
  exact this.2.1 this.1
theorem txts_len (l : List Ce) : (Ck.txts l).length ≤ l.length := by unfold Ck.txts; rw [List.length_map]; exact Ck.vals_len l
theorem pl_w32 (tx : List (List UInt8)) (h : tx.length ≤ 65536) : B.width (Ck.pl tx) ≤ 32 := by
  rw [B.width_le]
  intro p hp
  have h1 := Ck.pl_lt p hp
  have h2 := T.bld_len tx
  omega
theorem bL_len (tx : List (List UInt8)) (h : tx.length ≤ 65536) (hfit : T.fits (T.bld tx) = true) : (T.enc (T.bld tx) ++ R.enc (B.width (Ck.pl tx)) (Ck.pl tx)).length ≤ 4000000 := by
  have hd := (T.fits_iff _).1 hfit
  have h1 := (M.digs_len (T.bld tx).length).2
  have h2 := T.texts_len (T.bld tx) (fun s hs => by have := hd.1 s hs; omega)
  have h3 := enc_len (pl_w32 tx h) _ (Ck.pl tx) (Nat.le_refl _)
  rw [Ck.pl_len] at h3
  have h4 := hd.2.1
  unfold T.enc
  simp only [List.length_append]
  omega
set_option maxHeartbeats 8000000 in
set_option maxRecDepth 100000 in
theorem encode_is (kind : Int) (a : Option Addr) (n cap : Nat) (l : List Ce) (w : World) (hn : n = l.length) (hB : RdC w a cap l) (h64 : ∀ c ∈ l, In64 c.n) (r : List UInt8) (e0 : Nat) (hr : Ck.encE kind l = (r, e0)) :
    Calls Tryz.prog 9 #[.int .i64 kind, .slice a n cap] w fun e w' => ∃ v, e = .returned (.tuple #[v, .int .i64 e0]) ∧ Own w' w.heap.size v r ∧ Ex w w' := by
  have HN : Hid (n = l.length) := hn
  have HB : Hid (RdC w a cap l) := hB
  have H64 : Hid (∀ c ∈ l, In64 c.n) := h64
  have HR : Hid (Ck.encE kind l = (r, e0)) := hr
  have hcl : n ≤ cap := by have := hB.1; omega
  have hcm := hB.2.1
  unfold maxLen at hcm
  have hO0 : ∀ wx : World, Own wx w.heap.size (.slice none 0 0) [] := fun wx => ⟨by simp [cs], .inl ⟨rfl, rfl⟩⟩
  clear hB hn h64 hr
  go_enter Tryz.func9, Tryz.ntmps9
  by_cases hk : kind ≠ 1 ∧ kind ≠ 2
  · obtain ⟨hk1, hk2⟩ := hk
    have t1 : (kind != 1) = true := by simp [bne, hk1]
    have t2 : (kind != 2) = true := by simp [bne, hk2]
    have hr := HR.out
    unfold Ck.encE at hr
    rw [if_pos ⟨hk1, hk2⟩] at hr
    simp only [Prod.mk.injEq] at hr
    obtain ⟨rfl, rfl⟩ := hr
    go_wp2_with fail
    go_ret2
    exact ⟨_, rfl, hO0 _, Ex.refl _⟩
  have hk12 : kind = 1 ∨ kind = 2 := by omega
  by_cases hn6 : 65536 < n
  · have t3 : (65536 : Int) < (n : Int) := by omega
    have hr := HR.out
    unfold Ck.encE at hr
    rw [if_neg hk, if_pos (by rw [← HN.out]; exact hn6)] at hr
    simp only [Prod.mk.injEq] at hr
    obtain ⟨rfl, rfl⟩ := hr
    rcases hk12 with rfl | rfl
    · go_wp2_with fail
      go_ret2
      exact ⟨_, rfl, hO0 _, Ex.refl _⟩
    · go_wp2_with fail
      go_ret2
      exact ⟨_, rfl, hO0 _, Ex.refl _⟩
  have t3 : ¬ (65536 : Int) < (n : Int) := by omega
  have hl6 : l.length ≤ 65536 := by rw [← HN.out]; omega
  have hl7 : l.length ≤ 70000 := by omega
  by_cases hf : l.all (Ck.fits kind) = true
  · have hr := HR.out
    unfold Ck.encE at hr
    rw [if_neg hk, if_neg (by omega), if_pos hf] at hr
    simp only [Prod.mk.injEq] at hr
    obtain ⟨hr1, rfl⟩ := hr
    have hp := Ck.enc_parts hk12 hf hl6
    have hff := fits_is kind a n cap l w HN.out HB.out
    rw [hf] at hff
    have HFF : Hid (Calls Tryz.prog 29 #[.int .i64 kind, .slice a n cap] w fun e w' => e = .returned (.bool true) ∧ Ex w w') := hff
    clear hff
    rcases hk12 with rfl | rfl
    · have hpp := hp.1 rfl
      rw [hr1] at hpp
      have hx1 := hd_len 1 l hl6
      have hx2 := Ck.bI_len (Ck.n1 l)
      have hx3 := Ck.n1_len l
      obtain ⟨Hd, hHd⟩ : ∃ Hd, Ck.hd 1 l = Hd := ⟨_, rfl⟩
      obtain ⟨Bd, hBd⟩ : ∃ Bd, Ck.bI (Ck.n1 l) = Bd := ⟨_, rfl⟩
      rw [hHd, hBd] at hpp
      rw [hHd] at hx1
      rw [hBd] at hx2
      have HHd : Hid (Ck.hd 1 l = Hd) := hHd
      have HBd : Hid (Ck.bI (Ck.n1 l) = Bd) := hBd
      have HPP : Hid (r = Hd ++ Bd) := hpp
      have hBl : Bd.length ≤ 700000 := by omega
      clear hpp hHd hBd hp hr1 hx2 hx3 hf hk
      go_wp2_with fail
      go_at_call 29
      refine Calls.mono HFF.out ?_
      rintro e1 w1 ⟨rfl, hx⟩
      have HX1 : Hid (Ex w w1) := hx
      clear hx
      go_wp2_with fail
      go_at_call 30
      refine (head_is 1 1 a n cap l w1 rfl (by omega) HN.out (HB.out.below HX1.out) hl7 Hd HHd.out (by omega)).mono ?_
      rintro e2 w2 ⟨v2, rfl, hv2, hx⟩
      have HO2 : Hid (Own w2 w1.heap.size v2 Hd) := hv2
      have HX2 : Hid (Ex w w2) := HX1.out.trans hx
      have hs2 : w1.heap.size ≤ w2.heap.size := hx.size
      clear hv2 hx
      go_wp2_with fail
      go_at_call 31
      refine (numbersOf_is a n cap l w2 HN.out (HB.out.below HX2.out) hl7 H64.out).mono ?_
      rw [HBd.out]
      rintro e3 w3 ⟨v3, rfl, hv3, hx⟩
      obtain ⟨a3, c3, rfl, hb3⟩ := hv3.byt
      have HB3 : Hid (Byt w3 a3 c3 Bd) := hb3
      have HO3 : Hid (Own w3 w1.heap.size v2 Hd) := HO2.out.later hx
      have HX3 : Hid (Ex w w3) := HX2.out.trans hx
      have hs3 : w1.heap.size ≤ w3.heap.size := Nat.le_trans hs2 hx.size
      have hsw : w.heap.size ≤ w1.heap.size := HX1.out.size
      clear hv3 hx hb3
      go_wp2_with (at_builtin; refine wpList_append_byt rfl (.tmp 28) (.tmp 30) rfl w1.heap.size _ Hd rfl HO3.out a3 _ c3 Bd rfl rfl HB3.out (by omega) hs3 ?_; intro v9 w9 ho9 hg9; have X9 : Ex w w9 := step_below0 HX3.out HX3.out.size (HO3.out.mono hsw) hg9; clear hg9)
      rw [← HPP.out] at ho9
      have HO9 : Hid (Own w9 w.heap.size v9 r) := ho9.mono hsw
      clear ho9
      go_ret2
      exact ⟨_, rfl, HO9.out, X9⟩
    · obtain ⟨hp1, hp2, hp3⟩ := hp.2 rfl
      rw [hr1] at hp2 hp3
      have h40 := txts_40 hf
      have htl := txts_len l
      obtain ⟨tx, htx⟩ : ∃ tx, Ck.txts l = tx := ⟨_, rfl⟩
      rw [htx] at hp1 hp2 hp3 h40 htl
      have HT2 : Hid (Ck.t2 l = tx) := hp1
      have H40 : Hid (∀ s ∈ tx, s.length ≤ 40) := h40
      have htl6 : tx.length ≤ 65536 := by omega
      obtain ⟨tl, htl2⟩ : ∃ tl, tx.length = tl := ⟨_, rfl⟩
      have HTL : Hid (tx.length = tl) := htl2
      clear hp1 hp hr1 htx h40 hf hk htl htl2
      go_wp2_with fail
      go_at_call 29
      refine Calls.mono HFF.out ?_
      rintro e1 w1 ⟨rfl, hx⟩
      have HX1 : Hid (Ex w w1) := hx
      clear hx
      go_wp2_with fail
      go_at_call 32
      refine (textsOf_is a n cap l w1 HN.out (HB.out.below HX1.out) hl7).mono ?_
      rw [HT2.out]
      rintro e2 w2 ⟨v2, rfl, hv2, hx⟩
      obtain ⟨a2, c2, rfl, hb2⟩ := hv2.rd
      rw [HTL.out]
      have HB2 : Hid (Rd st w2 a2 c2 tx) := hb2
      have HX2 : Hid (Ex w w2) := HX1.out.trans hx
      clear hv2 hx hb2
      go_wp2_with fail
      go_at_call 33
      refine (sbuild_is a2 tl c2 tx w2 HTL.out.symm HB2.out (by omega) (T.bld tx) rfl (zs (Ck.pl tx)) (places_zs tx)).mono ?_
      rintro e3 w3 ⟨v3, u3, rfl, ⟨a3, c3, rfl, hb3⟩, ⟨a4, c4, rfl, hb4⟩, hx⟩
      obtain ⟨dl, hdl⟩ : ∃ dl, (T.bld tx).length = dl := ⟨_, rfl⟩
      obtain ⟨pl, hpl⟩ : ∃ pl, (zs (Ck.pl tx)).length = pl := ⟨_, rfl⟩
      rw [hdl, hpl]
      have HDL : Hid (dl = (T.bld tx).length) := hdl.symm
      have HPL : Hid (pl = (Ck.pl tx).length) := (by rw [← hpl, zs_len] : pl = (Ck.pl tx).length)
      have HB3 : Hid (Rd st w3 a3 c3 (T.bld tx)) := hb3
      have HB4 : Hid (Rd z64 w3 a4 c4 (zs (Ck.pl tx))) := hb4
      have HX3 : Hid (Ex w w3) := HX2.out.trans hx
      have HB23 : Hid (Rd st w3 a2 c2 tx) := HB2.out.below hx
      have hbl := T.bld_len tx
      have hDm : Hid (∀ x ∈ T.bld tx, x.length ≤ maxLen) := (fun x hx => by rw [T.mem_bld] at hx; have := H40.out x hx; unfold maxLen; omega : ∀ x ∈ T.bld tx, x.length ≤ maxLen)
      clear hb3 hb4 hx hdl hpl
      obtain ⟨ft, hft⟩ : ∃ ft, T.fits (T.bld tx) = ft := ⟨_, rfl⟩
      have HFt : Hid (T.fits (T.bld tx) = ft) := hft
      go_wp2_with fail
      go_at_call 34
      refine (sfits_is a3 dl c3 (T.bld tx) w3 HDL.out HB3.out (by omega) hDm.out ft HFt.out).mono ?_
      rintro e5 w5 ⟨rfl, hx5⟩
      have HX5 : Hid (Ex w w5) := HX3.out.trans hx5
      have HB35 : Hid (Rd st w5 a3 c3 (T.bld tx)) := HB3.out.below hx5
      have HB45 : Hid (Rd z64 w5 a4 c4 (zs (Ck.pl tx))) := HB4.out.below hx5
      have HB25 : Hid (Rd st w5 a2 c2 tx) := HB23.out.below hx5
      clear hx5 HB3 HB4 HB23
      cases ft with
      | true =>
        have hpp := hp2 hft
        have hx1 := hd_len 2 l hl6
        have hx2 := bL_len tx htl6 hft
        obtain ⟨Hd, hHd⟩ : ∃ Hd, Ck.hd 2 l = Hd := ⟨_, rfl⟩
        obtain ⟨Bd, hBd⟩ : ∃ Bd, T.enc (T.bld tx) ++ R.enc (B.width (Ck.pl tx)) (Ck.pl tx) = Bd := ⟨_, rfl⟩
        rw [hHd, hBd] at hpp
        rw [hHd] at hx1
        rw [hBd] at hx2
        have HHd : Hid (Ck.hd 2 l = Hd) := hHd
        have HBd : Hid (T.enc (T.bld tx) ++ R.enc (B.width (Ck.pl tx)) (Ck.pl tx) = Bd) := hBd
        have HPP : Hid (r = Hd ++ Bd) := hpp
        have HLt : Hid (∀ p ∈ Ck.pl tx, p < 70000) := (fun p hp => by have := Ck.pl_lt p hp; omega : ∀ p ∈ Ck.pl tx, p < 70000)
        have hpll : (Ck.pl tx).length ≤ 70000 := by rw [Ck.pl_len]; omega
        clear hpp hHd hBd hft hp2 hp3
        go_wp2_with fail
        go_at_call 30
        refine (head_is 2 2 a n cap l w5 rfl (by omega) HN.out (HB.out.below HX5.out) hl7 Hd HHd.out (by omega)).mono ?_
        rintro e6 w6 ⟨v6, rfl, hv6, hx⟩
        have HO6 : Hid (Own w6 w5.heap.size v6 Hd) := hv6
        have HX6 : Hid (Ex w w6) := HX5.out.trans hx
        have hs6 : w5.heap.size ≤ w6.heap.size := hx.size
        have HB36 : Hid (Rd st w6 a3 c3 (T.bld tx)) := HB35.out.below hx
        have HB46 : Hid (Rd z64 w6 a4 c4 (zs (Ck.pl tx))) := HB45.out.below hx
        clear hv6 hx
        go_wp2_with fail
        go_at_call 35
        refine (listOf_is a3 dl c3 (T.bld tx) a4 pl c4 (Ck.pl tx) w6 HDL.out HB36.out HPL.out HB46.out hpll HFt.out HLt.out Bd HBd.out (by omega)).mono ?_
        rintro e7 w7 ⟨v7, rfl, hv7, hx⟩
        obtain ⟨a7, c7, rfl, hb7⟩ := hv7.byt
        have HB7 : Hid (Byt w7 a7 c7 Bd) := hb7
        have HO7 : Hid (Own w7 w5.heap.size v6 Hd) := HO6.out.later hx
        have HX7 : Hid (Ex w w7) := HX6.out.trans hx
        have hs7 : w5.heap.size ≤ w7.heap.size := Nat.le_trans hs6 hx.size
        have hsw : w.heap.size ≤ w5.heap.size := HX5.out.size
        clear hv7 hx hb7
        go_wp2_with (at_builtin; refine wpList_append_byt rfl (.tmp 42) (.tmp 45) rfl w5.heap.size _ Hd rfl HO7.out a7 _ c7 Bd rfl rfl HB7.out (by omega) hs7 ?_; intro v9 w9 ho9 hg9; have X9 : Ex w w9 := step_below0 HX7.out HX7.out.size (HO7.out.mono hsw) hg9; clear hg9)
        rw [← HPP.out] at ho9
        have HO9 : Hid (Own w9 w.heap.size v9 r) := ho9.mono hsw
        clear ho9
        go_ret2
        exact ⟨_, rfl, HO9.out, X9⟩
      | false =>
        have hpp := hp3 (by rw [hft]; simp)
        have hx1 := hd_len 3 l hl6
        have hx2 := T.texts_len tx (fun s hs => by have := H40.out s hs; omega)
        obtain ⟨Hd, hHd⟩ : ∃ Hd, Ck.hd 3 l = Hd := ⟨_, rfl⟩
        obtain ⟨Bd, hBd⟩ : ∃ Bd, T.texts tx = Bd := ⟨_, rfl⟩
        rw [hHd, hBd] at hpp
        rw [hHd] at hx1
        rw [hBd] at hx2
        have hBl : Bd.length ≤ 4000000 := by omega
        have HHd : Hid (Ck.hd 3 l = Hd) := hHd
        have HBd : Hid (T.texts tx = Bd) := hBd
        have HPP : Hid (r = Hd ++ Bd) := hpp
        have htl7 : tx.length ≤ 70000 := by omega
        have H41 : Hid (∀ s ∈ tx, s.length ≤ 41) := (fun s hs => by have := H40.out s hs; omega : ∀ s ∈ tx, s.length ≤ 41)
        clear hpp hHd hBd hft hp2 hp3 hx2
        go_wp2_with fail
        go_at_call 30
        refine (head_is 3 3 a n cap l w5 rfl (by omega) HN.out (HB.out.below HX5.out) hl7 Hd HHd.out (by omega)).mono ?_
        rintro e6 w6 ⟨v6, rfl, hv6, hx⟩
        have HO6 : Hid (Own w6 w5.heap.size v6 Hd) := hv6
        have HX6 : Hid (Ex w w6) := HX5.out.trans hx
        have hs6 : w5.heap.size ≤ w6.heap.size := hx.size
        have HB26 : Hid (Rd st w6 a2 c2 tx) := HB25.out.below hx
        clear hv6 hx
        go_wp2_with fail
        go_at_call 36
        refine (plainOf_is a2 tl c2 tx w6 HTL.out.symm HB26.out htl7 H41.out).mono ?_
        rw [HBd.out]
        rintro e7 w7 ⟨v7, rfl, hv7, hx⟩
        obtain ⟨a7, c7, rfl, hb7⟩ := hv7.byt
        have HB7 : Hid (Byt w7 a7 c7 Bd) := hb7
        have HO7 : Hid (Own w7 w5.heap.size v6 Hd) := HO6.out.later hx
        have HX7 : Hid (Ex w w7) := HX6.out.trans hx
        have hs7 : w5.heap.size ≤ w7.heap.size := Nat.le_trans hs6 hx.size
        have hsw : w.heap.size ≤ w5.heap.size := HX5.out.size
        clear hv7 hx hb7
        go_wp2_with (at_builtin; refine wpList_append_byt rfl (.tmp 48) (.tmp 50) rfl w5.heap.size _ Hd rfl HO7.out a7 _ c7 Bd rfl rfl HB7.out (by omega) hs7 ?_; intro v9 w9 ho9 hg9; have X9 : Ex w w9 := step_below0 HX7.out HX7.out.size (HO7.out.mono hsw) hg9; clear hg9)
        rw [← HPP.out] at ho9
        have HO9 : Hid (Own w9 w.heap.size v9 r) := ho9.mono hsw
        clear ho9
        go_ret2
        exact ⟨_, rfl, HO9.out, X9⟩
  · have hr := HR.out
    unfold Ck.encE at hr
    rw [if_neg hk, if_neg (by omega), if_neg hf] at hr
    simp only [Prod.mk.injEq] at hr
    obtain ⟨rfl, rfl⟩ := hr
    have hff := fits_is kind a n cap l w HN.out HB.out
    have hf0 : l.all (Ck.fits kind) = false := by simpa using hf
    rw [hf0] at hff
    have HFF : Hid (Calls Tryz.prog 29 #[.int .i64 kind, .slice a n cap] w fun e w' => e = .returned (.bool false) ∧ Ex w w') := hff
    clear hff hf hf0 hk
    rcases hk12 with rfl | rfl
    · go_wp2_with fail
      go_at_call 29
      refine Calls.mono HFF.out ?_
      rintro e1 w1 ⟨rfl, hx⟩
      go_wp2_with fail
      go_ret2
      exact ⟨_, rfl, hO0 _, hx⟩
    · go_wp2_with fail
      go_at_call 29
      refine Calls.mono HFF.out ?_
      rintro e1 w1 ⟨rfl, hx⟩
      go_wp2_with fail
      go_ret2
      exact ⟨_, rfl, hO0 _, hx⟩
end Go.Proofs.YtnmonoafjijfhaaGreat
namespace Go.Proofs.YtnmonoafjijfhaaGreat
open Go.RowKit
set_option linter.unusedVariables false
set_option linter.unusedSimpArgs false
/-- A row of cells that fills a block. -/
def CRow (w : World) (g : Nat) (l : List Ce) : Prop := w.heap[g]? = some (.cells (flat cc l).toArray 28 (0, 0))
theorem CRow.lt {w : World} {g : Nat} {l : List Ce} (h : CRow w g l) : g < w.heap.size := (Array.getElem?_eq_some_iff.1 h).1
theorem CRow.below {w w' : World} {g : Nat} {l : List Ce} (h : CRow w g l) (hb : Below w.heap.size w w') : CRow w' g l := by
  unfold CRow; rw [hb.block g h.lt]; exact h
theorem CRow.far {w w' : World} {g : Nat} {l : List Ce} {row : Option Nat} (h : CRow w g l) (hg : w.grownBy w' row) (hne : row ≠ some g) : CRow w' g l := by
  unfold CRow; rw [hg.block g h.lt (fun e => hne e.symm)]; exact h
theorem CRow.at {w : World} {g i : Nat} {l : List Ce} (h : CRow w g l) (hi : i < l.length) (j : Nat) (hj : j < 4) : w.cell? ⟨g, i * 4 + j, none⟩ = (cc l[i])[j]? := by
  rw [cell_of_row w g _ _ 28 (0, 0) h]
  have := flat_get (fl := cc) (k := 4) cc_len l i j l[i] (List.getElem?_eq_getElem hi) hj
  simpa using this
theorem CRow.four {w : World} {g i : Nat} {l : List Ce} (h : CRow w g l) (hi : i < l.length) : w.cell? ⟨g, i * 4, none⟩ = some (.string (str l[i].col)) ∧ w.cell? ⟨g, i * 4 + 1, none⟩ = some (.int .i64 l[i].k) ∧ w.cell? ⟨g, i * 4 + 2, none⟩ = some (.int .i64 l[i].n) ∧ w.cell? ⟨g, i * 4 + 3, none⟩ = some (.string (str l[i].s)) :=
  ⟨h.at hi 0 (by decide), h.at hi 1 (by decide), h.at hi 2 (by decide), h.at hi 3 (by decide)⟩
theorem CRow.fro {w : World} {g : Nat} {l : List Ce} (h : CRow w g l) (k : Nat) : w.frozen? ⟨g, k, none⟩ = false := frozen_of_row _ _ _ _ _ h
theorem CRow.rd {w : World} {g n : Nat} {l : List Ce} (h : CRow w g l) (hn : n = l.length) (hm : n ≤ 140737488355328) : RdC w (some ⟨g, 0, none⟩) n l := by
  subst hn
  refine ⟨Nat.le_refl _, by unfold maxLen; omega, by simp, fun i x hx => ⟨g, 0, rfl, fun j u hu => ?_⟩⟩
  have hi := (List.getElem?_eq_some_iff.1 hx)
  obtain ⟨hi1, hi2⟩ := hi
  have hj : j < 4 := by have := (List.getElem?_eq_some_iff.1 hu).1; rw [cc_len] at this; exact this
  have := h.at hi1 j hj
  rw [hi2, hu] at this
  rw [show 0 + i * 4 + j = i * 4 + j by omega]
  exact this
abbrev cset4 (w : World) (g o : Nat) (c : Ce) : World := (((w.setCell ⟨g, o, none⟩ (.string (str c.col))).setCell ⟨g, o + 1, none⟩ (.int .i64 c.k)).setCell ⟨g, o + 2, none⟩ (.int .i64 c.n)).setCell ⟨g, o + 3, none⟩ (.string (str c.s))
theorem grown_cset4 (w : World) (g o : Nat) (c : Ce) : w.grownBy (cset4 w g o c) (some g) := grown_tr (grown_tr (grown_tr (grown_set1 _ _ _ _) (grown_set1 _ _ _ _)) (grown_set1 _ _ _ _)) (grown_set1 _ _ _ _)
theorem Below.cset4 {B : Nat} {a w : World} (h : Below B a w) {g : Nat} (hg : B ≤ g) (o : Nat) (c : Ce) : Below B a (cset4 w g o c) :=
  Below.setCell (p := ⟨g, o + 3, none⟩) (Below.setCell (p := ⟨g, o + 2, none⟩) (Below.setCell (p := ⟨g, o + 1, none⟩) (Below.setCell (p := ⟨g, o, none⟩) h hg _) hg _) hg _) hg _
theorem CRow.set1 {w : World} {g i j : Nat} {l : List Ce} {x y : Ce} {u : Value} (h : CRow w g l) (hx : l[i]? = some x) (hj : j < 4) (hy : (cc x).set j u = cc y) : CRow (w.setCell ⟨g, i * 4 + j, none⟩ u) g (l.set i y) := by
  unfold CRow
  rw [heap_setCell_same w g _ _ 28 _ h, List.setIfInBounds_toArray, flat_set cc_len l i j x y u hx hj hy]
theorem CRow.set4 {w : World} {g i : Nat} {l : List Ce} (h : CRow w g l) (hi : i < l.length) (c : Ce) : CRow (cset4 w g (i * 4) c) g (l.set i c) := by
  obtain ⟨x, hx⟩ : ∃ x, l[i]? = some x := ⟨_, List.getElem?_eq_getElem hi⟩
  have h1 := CRow.set1 (j := 0) (y := { x with col := c.col }) (u := .string (str c.col)) h hx (by decide) rfl
  have h2 := CRow.set1 (i := i) (j := 1) (x := { x with col := c.col }) (y := { x with col := c.col, k := c.k }) (u := .int .i64 c.k) h1 (by rw [List.getElem?_set_self hi]) (by decide) rfl
  rw [List.set_set] at h2
  have h3 := CRow.set1 (i := i) (j := 2) (x := { x with col := c.col, k := c.k }) (y := { x with col := c.col, k := c.k, n := c.n }) (u := .int .i64 c.n) h2 (by rw [List.getElem?_set_self hi]) (by decide) rfl
  rw [List.set_set] at h3
  have h4 := CRow.set1 (i := i) (j := 3) (x := { x with col := c.col, k := c.k, n := c.n }) (y := c) (u := .string (str c.s)) h3 (by rw [List.getElem?_set_self hi]) (by decide) rfl
  rw [List.set_set] at h4
  exact h4
theorem made_cells (m : Nat) : (madeCells (Value.agg #[.string ⟨#[]⟩, .int .i64 0, .int .i64 0, .string ⟨#[]⟩]).cells (m * 4)).toList = flat cc (List.replicate m Rw.none_) := by
  apply List.ext_getElem?
  intro j
  by_cases hj : j < m * 4
  · have h1 := flat_get (fl := cc) (k := 4) cc_len (List.replicate m Rw.none_) (j / 4) (j % 4) Rw.none_ (by rw [List.getElem?_replicate, if_pos (by omega)]) (by omega)
    rw [show j / 4 * 4 + j % 4 = j by omega] at h1
    rw [h1]
    unfold madeCells
    rw [Array.toList_map]
    have h3 : j % 4 = 0 ∨ j % 4 = 1 ∨ j % 4 = 2 ∨ j % 4 = 3 := by omega
    have hr : (List.range (m * 4))[j]? = some j := by simp [hj]
    simp only [Value.cells, Array.toList_range, List.getElem?_map, hr, Option.map_some]
    rcases h3 with h | h | h | h <;> (rw [h]; simp [h, cc, Rw.none_, str])
  · rw [List.getElem?_eq_none (by simp [madeCells]; omega), List.getElem?_eq_none (by rw [flat_len cc_len]; simp; omega)]
/-- 'make([]Cell, m)'. -/
theorem wpList_make_cells {w : World} {ops : Array Oper} {rest : List Oper} {o : Oper} {a : Act} {Q : Exit → Act → World → Prop}
    (hg : o.guard = none) (l c : Operand) (hop : o.op = Op.makeSlice 26 l c) (L C : Int) (m : Nat) (hl : a.eval l = .int .i64 L) (hc : a.eval c = .int .i64 C) (hL : L = (m : Int)) (hC : C = (m : Int)) (b3 : m ≤ 1000000)
    (hK : ∀ (w' : World), CRow w' w.heap.size (List.replicate m Rw.none_) → Below w.heap.size w w' → wpList Tryz.prog ops Q rest (a.put o.dst (.slice (some ⟨w.heap.size, 0, none⟩) m m)) w') :
    wpList Tryz.prog ops Q (o :: rest) a w := by
  obtain ⟨i0, hi, hz0, hz1, hz2⟩ := info_parts Tryz.info28
  refine wpList_plain hg fun K hK' => ?_
  subst hL
  subst hC
  have hrun := run_make (P := Tryz.prog) w 26 28 i0 _ Tryz.underlying26 hi hz0 .i64 .i64 (m : Int) (m : Int) (by omega) (by omega) (by rw [hz2]; omega) (by omega)
  simp only [Int.toNat_natCast] at hrun
  unfold Oper.wp
  simp [execOp, hop, hl, hc, hrun, Result.andThen]
  refine hK' _ _ (hK _ ?_ ((Below.refl _ _).alloc (Nat.le_refl _) _))
  unfold CRow
  rw [hz1, heap_alloc_new, ← made_cells]
/-- The word of a place. -/
def cel (ws : List Ce) (ps : List Nat) (i : Nat) : Ce := ws.getD (ps.getD i 0) Rw.none_
theorem cell_ext {w w' : World} {p : Addr} {u : Value} (h : w.cell? p = some u) (hx : Ex w w') : w'.cell? p = some u := by
  rw [hx.cell (World.block_lt_of_cell? w _ h)]; exact h
set_option maxHeartbeats 4000000 in
set_option maxRecDepth 100000 in
theorem colcell_is (b off : Nat) (x y : SV) (ws : List Ce) (ps : List Nat) (I : Int) (i : Nat) (w : World) (h1 : w.cell? ⟨b, off + 1, none⟩ = some (sv x)) (h2 : w.cell? ⟨b, off + 2, none⟩ = some (sv y)) (hx : IsC ws x w) (hy : IsZ ps y w) (hI : I = i) (hi : i < ps.length) (hp : ∀ p ∈ ps, p < ws.length) :
    Calls Tryz.prog 57 #[.pointer (some ⟨b, off, none⟩), .int .i64 I] w fun e w' => e = .returned (cv (cel ws ps i)) ∧ Ex w w' := by
  subst hI
  obtain ⟨xa, xn, xc⟩ := x
  obtain ⟨ya, yn, yc⟩ := y
  simp only [sv] at h1 h2
  obtain ⟨hx1, hx2⟩ := hx
  obtain ⟨hy1, hy2⟩ := hy
  simp only at hx1 hx2 hy1 hy2
  obtain ⟨p, hpe⟩ : ∃ p, ps[i] = p := ⟨_, rfl⟩
  have hpw : p < ws.length := by rw [← hpe]; exact hp _ (List.getElem_mem hi)
  have hd : cel ws ps i = ws[p] := by
    unfold cel
    simp [List.getD_eq_getElem?_getD, List.getElem?_eq_getElem hi, hpe, List.getElem?_eq_getElem hpw]
  rw [hd]
  obtain ⟨d, hde⟩ : ∃ d, ws[p] = d := ⟨_, rfl⟩
  obtain ⟨yb, yo, rfl, hyc⟩ := hy2.at hi
  obtain ⟨xb, xo, rfl, e0, e1, e2, e3⟩ := RdC.four hx2 hpw
  rw [hde] at e0 e1 e2 e3 ⊢
  rw [hpe] at hyc
  have hyc' : w.cell? ⟨yb, yo + i, none⟩ = some (.int .i64 (p : Int)) := hyc
  have b1 := hx2.1
  have b2 := hx2.2.1
  have b3 := hy2.1
  have b4 := hy2.2.1
  unfold maxLen at b2 b4
  have hi1 : (i : Int) < (yn : Int) := by omega
  have hp1 : (p : Int) < (xn : Int) := by omega
  obtain ⟨w1, hw1⟩ : ∃ w1, w.alloc (cb Rw.none_) = w1 := ⟨_, rfl⟩
  have hx01 : Ex w w1 := by rw [← hw1]; exact (Below.refl _ _).alloc (Nat.le_refl _) _
  have HX : Hid (Ex w w1) := hx01
  have HE1 : Hid (EAt w1 w.heap.size Rw.none_) := (by rw [← hw1]; exact EAt.new w Rw.none_ : EAt w1 w.heap.size Rw.none_)
  have HW1 : Hid (w.alloc (.cells #[.string { data := #[] }, .int .i64 0, .int .i64 0, .string { data := #[] }] 28) = w1) := hw1
  have H1 : Hid (w1.cell? ⟨b, off + 1, none⟩ = some (.slice (some ⟨xb, xo, none⟩) xn xc)) := cell_ext h1 hx01
  have H2 : Hid (w1.cell? ⟨b, off + 2, none⟩ = some (.slice (some ⟨yb, yo, none⟩) yn yc)) := cell_ext h2 hx01
  have H3 : Hid (w1.cell? ⟨yb, yo + i, none⟩ = some (.int .i64 (p : Int))) := cell_ext hyc' hx01
  have E0 : Hid (w1.cell? ⟨xb, xo + p * 4, none⟩ = some (.string (str d.col))) := cell_ext e0 hx01
  have E1 : Hid (w1.cell? ⟨xb, xo + p * 4 + 1, none⟩ = some (.int .i64 d.k)) := cell_ext e1 hx01
  have E2 : Hid (w1.cell? ⟨xb, xo + p * 4 + 2, none⟩ = some (.int .i64 d.n)) := cell_ext e2 hx01
  have E3 : Hid (w1.cell? ⟨xb, xo + p * 4 + 3, none⟩ = some (.string (str d.s))) := cell_ext e3 hx01
  clear hw1 h1 h2 hyc hyc' e0 e1 e2 e3 hx01 hd hde hpe hx2 hy2 hp
  go_enter Tryz.func57, Tryz.ntmps57
  go_wp2_with fail
  rw [HW1.out]
  have hre := Ex.refl
  refine Rg.wp_rows_tail (List.take 13 _) (List.drop 13 _) (List.take_append_drop 13 _).symm [.inl (.pointer (some ⟨b, off, none⟩)), .inl (.pointer (some ⟨b, off, none⟩)), .inl (.pointer (some ⟨b, off + 1, none⟩)), .inl (.slice (some ⟨xb, xo, none⟩) xn xc), .inl (.pointer (some ⟨b, off, none⟩)), .inl (.pointer (some ⟨b, off, none⟩)), .inl (.pointer (some ⟨b, off + 2, none⟩)), .inl (.slice (some ⟨yb, yo, none⟩) yn yc), .inl (.int .i64 (i : Int)), .inl (.pointer (some ⟨yb, yo + i, none⟩)), .inl (.int .i64 (p : Int)), .inl (.pointer (some ⟨xb, xo + p * 4, none⟩)), .inl (cv d)] (Ex w1) Ex 18 (by kernel_rfl) rfl (by kernel_rfl) (by kernel_rfl) (by kernel_rfl) (by decide) (by kernel_rfl) ?st hre (Ex.drew _) ?goods ?fin
  case st => exact trivial
  case goods =>
    refine Rg.goods_cons (Rg.good_move hre rfl rfl rfl) ?_
    refine Rg.goods_cons (Rg.good_nil hre rfl rfl rfl) ?_
    refine Rg.goods_cons (Rg.good_field hre rfl rfl rfl (fun wx hC => by go_simp)) ?_
    refine Rg.goods_cons (Rg.good_load hre rfl rfl rfl (fun wx hC => by have hz := cell_ext H1.out hC; go_simp)) ?_
    refine Rg.goods_cons (Rg.good_move hre rfl rfl rfl) ?_
    refine Rg.goods_cons (Rg.good_nil hre rfl rfl rfl) ?_
    refine Rg.goods_cons (Rg.good_field hre rfl rfl rfl (fun wx hC => by go_simp)) ?_
    refine Rg.goods_cons (Rg.good_load hre rfl rfl rfl (fun wx hC => by have hz := cell_ext H2.out hC; go_simp)) ?_
    refine Rg.goods_cons (Rg.good_move hre rfl rfl rfl) ?_
    refine Rg.goods_cons (Rg.good_index hre rfl rfl rfl rfl (fun wx hC => by go_simp)) ?_
    refine Rg.goods_cons (Rg.good_load hre rfl rfl rfl (fun wx hC => by have hz := cell_ext H3.out hC; go_simp)) ?_
    refine Rg.goods_cons (Rg.good_index hre rfl rfl rfl rfl (fun wx hC => by go_simp)) ?_
    refine Rg.goods_cons (Rg.good_load hre rfl rfl rfl (fun wx hC => loadI_cell (cell_ext E0.out hC) (cell_ext E1.out hC) (cell_ext E2.out hC) (cell_ext E3.out hC))) ?_
    exact Rg.goods_nil
  case fin =>
    intro wx hx
    simp only [Rg.later, List.take_succ_cons, List.take_zero, List.drop_succ_cons, List.drop_zero, Act.put, List.setIfInBounds_toArray, List.set_cons_succ, List.set_cons_zero]
    have HE : Hid (EAt wx w.heap.size Rw.none_) := HE1.out.below hx
    have HXx : Hid (Ex w wx) := HX.out.trans hx
    obtain ⟨z0, z1, z2, z3⟩ := HE.out.all
    obtain ⟨f0, f1, f2, f3⟩ := HE.out.fro
    clear hx
    unfold cv
    go_wp2_with fail
    refine bodyPost_ret (v := cv d) (res_cell Tryz.results57 rfl (EAt.store HE.out d)) rfl ⟨rfl, Below.eset HXx.out (Nat.le_refl _) d⟩
end Go.Proofs.YtnmonoafjijfhaaGreat
