/-
  Package runs: what writes groups (addGroups), over the program.
-/
import Derived.Test.YtkhbkifofkjjnaaAdds
import Derived.Test.YtkhbkifofkjjnaaApart
namespace Go.Proofs.Ytkhbkifofkjjnaa
open Go.RowKit
set_option linter.unusedVariables false

theorem Try.size53 : (Try.prog.info? 53).map (·.size) = some 1 := by kernel_rfl
/-- Bytes in another block than the one that is appended to are as they were. -/
theorem Byt.far {w w' : World} {a : Option Addr} {n cap : Nat} {l : List UInt8} {row : Option Nat} (h : Byt w a cap l) (hg : w.grownBy w' row) (hne : ∀ g, (Value.slice a n cap).ownBlock = some g → row ≠ some g) : Byt w' a cap l := by
  obtain ⟨h1, h2, h3, h4⟩ := h
  refine ⟨h1, h2, h3, fun i hi => ?_⟩
  obtain ⟨b, off, rfl, hc⟩ := h4 i hi
  exact ⟨b, off, rfl, by rw [hg.cell_far ⟨b, off + i, none⟩ (World.block_lt_of_cell? w _ hc) (Ne.symm (hne b rfl))]; exact hc⟩
/-- 'copy(whole, l)', whole a new row of noughts: l, filled up. -/
theorem splice_pad (m : Nat) (l : List Nat) (h : l.length ≤ m) : splice (List.replicate m (n64 0)) 0 (l.map n64) = (R.pad m l).map n64 := by
  unfold splice R.pad
  simp
set_option maxRecDepth 100000 in
set_option maxHeartbeats 1000000 in
theorem addGroups_any (base : Nat) (v : Value) (pre pd : List UInt8) (a : Option Addr) (len cap : Nat) (l : List Nat) (D G : Nat) (w : World) (hown : Own w base v pre) (hb : base ≤ w.heap.size) (hlen : len = l.length) (hB : Rd n64 w a cap l) (h64 : ∀ x ∈ l, x < 18446744073709551616) (hl : l.length ≤ 2000000) (hD : D ≤ 32) (hw : B.width l ≤ D) (hpl : pre.length ≤ 200000000) (hG : (l.length + 7) / 8 = G) (hpd : pre ++ M.digs (2 * G + 1) = pd) :
    Calls Try.prog 45 #[v, .slice a len cap, .int .i64 D] w fun e w' => ∃ v', e = .returned v' ∧ Own w' base v' (pd ++ B.pack D (R.pad (8 * G) l)) ∧ Below base w w' := by
  subst hlen
  have hcl := hB.1
  have hcm := hB.2.1
  unfold maxLen at hcm
  have hlG : l.length ≤ 8 * G := by omega
  have hGb : G ≤ 250001 := by omega
  obtain ⟨X, hX⟩ : ∃ X, X = R.pad (8 * G) l := ⟨_, rfl⟩
  have hXl : X.length = 8 * G := by rw [hX]; exact R.pad_len hlG
  have hXm : ∀ x ∈ X, x ∈ l ∨ x = 0 := fun x hx => by rw [hX] at hx; exact R.pad_mem hx
  have hX64 : ∀ x ∈ X, x < 18446744073709551616 := fun x hx => by
    rcases hXm x hx with h | h
    · exact h64 x h
    · omega
  have hXw : B.width X ≤ D := (B.width_le D X).2 fun x hx => by
    rcases hXm x hx with h | h
    · exact B.fits hw x h
    · rw [h]; exact Nat.two_pow_pos D
  have hsp := splice_pad (8 * G) l hlG
  rw [← hX] at hsp ⊢
  obtain ⟨PP, hPP⟩ : ∃ PP, PP = B.pack D X := ⟨_, rfl⟩
  have hpk : B.pck X (D : Int) = (B.pack D X, 0) := B.pck_ok (by omega) hXw
  have hPl : PP.length ≤ 32 * G := by
    rw [hPP, B.pack_len]; unfold B.size
    have h1 : X.length * D ≤ X.length * 32 := Nat.mul_le_mul_left _ hD
    omega
  rw [← hPP] at hpk ⊢
  have HPK : Hid (B.pck X (D : Int) = (PP, 0)) := hpk
  have HX64 : Hid (∀ x ∈ X, x < 18446744073709551616) := hX64
  have HXl : Hid (8 * G = X.length) := hXl.symm
  have HSP : Hid (splice (List.replicate (8 * G) (n64 0)) 0 (l.map n64) = X.map n64) := hsp
  have HPD : Hid (pre ++ M.digs (2 * G + 1) = pd) := hpd
  have hdl := M.digs_len (2 * G + 1)
  have hpdl : pd.length ≤ 200000010 := by rw [← hpd]; simp; omega
  have HO : Hid (Own w base v pre) := hown
  have HB0 : Hid (base ≤ w.heap.size) := hb
  have HRd : Hid (Rd n64 w a cap l) := hB
  have HG : Hid ((l.length + 7) / 8 = G) := hG
  clear hX hXm hX64 hXw hsp hPP hpk hXl hpd hown hb hB hG h64
  go_enter Try.func45, Try.ntmps45
  go_wp2_with fail
  refine (groupsOf_is _ l.length _ rfl (by omega) G HG.out).mono ?_
  rintro e wq ⟨rfl, hw'⟩
  have hw'' := hw'.symm
  clear hw'
  subst hw''
  obtain ⟨C, hC⟩ : ∃ C, C = l.map n64 := ⟨_, rfl⟩
  have hCl : C.length = l.length := by rw [hC]; simp
  have HC : Hid (C = l.map n64) := hC
  have hone : ∀ v ∈ C, v.oneCell' = true := by rw [hC]; intro u hu; obtain ⟨y, _, rfl⟩ := List.mem_map.1 hu; rfl
  clear hC
  go_wp2_with (first
    | (at_make; refine wpList_make_row (enc := n64) rfl _ _ 50 53 rfl 0 8 Try.underlying50 rfl Try.info53 _ _ (8 * G) rfl rfl (by omega) (by omega) (by omega) (by omega) ?_; intro w1 hr1 hb1; have hg1 : w1.heap[w.heap.size]? = some (.cells (List.replicate (8 * G) (n64 0)).toArray 53 (0, 0)) := (by have h := hr1; unfold RowAt at h; rw [List.map_replicate] at h; exact h); clear hr1)
    | (have _t := hg1; refine wpList_copy_splice rfl (.tmp 17) (.tmp 18) 50 50 rfl 53 Try.underlying50 Try.size53 _ _ _ _ _ _ rfl rfl w.heap.size 0 (List.replicate (8 * G) (n64 0)) 53 hg1 C ?c1 ?c2 ?c3 hone w.heap.size w hb1 (Nat.le_refl _) ?_; rotate_right; intro w2 hg2 hb2; clear hg1)
    | fail)
  case c1 => rw [hCl]; exact (Nat.min_eq_left (by omega)).symm
  case c2 =>
    intro h0
    obtain ⟨b, off, rfl, _⟩ := HRd.out.at (k := 0) (by omega)
    refine ⟨_, rfl, fun j u hu => ?_⟩
    rw [HC.out, List.getElem?_map] at hu
    obtain ⟨y, hy, rfl⟩ := Option.map_eq_some_iff.1 hu
    obtain ⟨b', off', hbo, hc⟩ := HRd.out.2.2.2 j y hy
    simp at hbo
    obtain ⟨rfl, rfl⟩ := hbo
    rw [add_none, hb1.cell (p := ⟨b, off + j, none⟩) (World.block_lt_of_cell? w _ hc)]
    exact hc
  case c3 => rw [hCl]; simp; omega
  have hrow : RowAt n64 53 w2 w.heap.size X := by
    have h := hg2.out
    rw [HC.out, HSP.out] at h
    exact h
  have hx2 : Ex w w2 := hb2
  have HX2 : Hid (Ex w w2) := hx2
  have HRX : Hid (Rd n64 w2 (some ⟨w.heap.size, 0, none⟩) (8 * G) X) := hrow.rd HXl.out (by omega)
  clear hrow hg2 hx2 hb1 hb2
  refine (pack_is _ _ _ X _ _ HXl.out HRX.out HX64.out (by have := HXl.out; omega) (by omega) (by omega) PP 0 HPK.out).mono ?_
  rintro e w3 ⟨vp, rfl, ⟨ap, cp, rfl, hbp⟩, hfr, hx3⟩
  have HFr : Hid (∀ g, (Value.slice ap PP.length cp).ownBlock = some g → v.ownBlock ≠ some g) := (fun g hg e => by
    have h1 := hfr g hg
    have h2 := (World.ownsRow.lt HO.out g e).2
    have h3 := HX2.out.size
    omega : ∀ g, (Value.slice ap PP.length cp).ownBlock = some g → v.ownBlock ≠ some g)
  clear hfr
  have hx03 : Ex w w3 := HX2.out.trans hx3
  have HX3 : Hid (Ex w w3) := hx03
  have HBP : Hid (Byt w3 ap cp PP) := hbp
  clear hx3 hbp hx03
  go_wp2_with fail
  refine (put_is none 0 0 [] (M.digs (2 * G + 1)) _ (2 * G + 1) _ (by omega) rfl (Byt.nil _) rfl (by omega) (by simp)).mono ?_
  rintro e w4 ⟨v4, rfl, ho4, hb4⟩
  obtain ⟨a4, c4, rfl, hby4⟩ := ho4.byt
  have hx4 : Ex w3 w4 := hb4
  have HX4 : Hid (Ex w w4) := HX3.out.trans hx4
  have HO4 : Hid (Own w4 base v pre) := HO.out.later HX4.out
  have HBy4 : Hid (Byt w4 a4 c4 (M.digs (2 * G + 1))) := hby4
  have HBP4 : Hid (Byt w4 ap cp PP) := HBP.out.below hx4
  have hbs4 : base ≤ w4.heap.size := Nat.le_trans HB0.out HX4.out.size
  clear ho4 hb4 hby4 hx4
  go_wp2_with (first
    | (at_builtin; have _t := HO4; refine wpList_append_byt rfl (.tmp 26) (.tmp 31) rfl base _ pre rfl HO4.out a4 _ c4 (M.digs (2 * G + 1)) rfl rfl HBy4.out ?x1 hbs4 ?_; rotate_right; intro v5 w5 ho5 hg5; have HO5 : Hid (Own w5 base v5 pd) := (by rw [HPD.out] at ho5; exact ho5 : Own w5 base v5 pd); have HB5 : Hid (Below base w w5) := step_below0 (HX4.out.mono HB0.out) hbs4 HO4.out hg5; have HBP5 : Hid (Byt w5 ap cp PP) := Byt.far (n := PP.length) HBP4.out hg5 HFr.out; have hbs5 : base ≤ w5.heap.size := Nat.le_trans HB0.out HB5.out.size; clear HO4 ho5 hg5)
    | (at_builtin; have _t := HO5; refine wpList_append_byt rfl (.tmp 33) (.tmp 34) rfl base _ pd rfl HO5.out ap _ cp PP rfl rfl HBP5.out ?x2 hbs5 ?_; rotate_right; intro v6 w6 ho6 hg6; have HB6 : Hid (Below base w w6) := step_below0 HB5.out hbs5 HO5.out hg6; have HO6 : Hid (Own w6 base v6 (pd ++ PP)) := ho6; clear HO5 ho6 hg6)
    | fail)
  case x1 => omega
  case x2 => omega
  go_ret
  exact ⟨_, rfl, HO6.out, HB6.out⟩
end Go.Proofs.Ytkhbkifofkjjnaa
