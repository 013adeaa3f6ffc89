/-
  Package runs: what writes groups (addGroups), over the program. Package runs: its Encode over the program.
-/
import Derived.Test.YtnmonoafjijfhaaGreatM22
namespace Go.Proofs.YtnmonoafjijfhaaGreat
open Go.RowKit
set_option linter.unusedVariables false

theorem Tryz.size69 : (Tryz.prog.info? 69).map (·.size) = some 1 := by kernel_rfl
/-- Bytes in another block than the one that is appended to are as they were. -/
theorem Byt.far {w w' : World} {a : Option Addr} {n cap : Nat} {l : List UInt8} {row : Option Nat} (h : Byt w a cap l) (hg : w.grownBy w' row) (hne : ∀ g, (Value.slice a n cap).ownBlock = some g → row ≠ some g) : Byt w' a cap l := by
  obtain ⟨h1, h2, h3, h4⟩ := h
  refine ⟨h1, h2, h3, fun i hi => ?_⟩
  obtain ⟨b, off, rfl, hc⟩ := h4 i hi
  exact ⟨b, off, rfl, by rw [hg.cell_far ⟨b, off + i, none⟩ (World.block_lt_of_cell? w _ hc) (Ne.symm (hne b rfl))]; exact hc⟩
/-- 'copy(whole, l)', whole a new row of noughts: l, filled up. -/
theorem splice_pad (m : Nat) (l : List Nat) (h : l.length ≤ m) : splice (List.replicate m (n64 0)) 0 (l.map n64) = (R.pad m l).map n64 := by
  unfold splice R.pad
  simp
set_option maxRecDepth 100000 in
set_option maxHeartbeats 1000000 in
theorem addGroups_any (base : Nat) (v : Value) (pre pd : List UInt8) (a : Option Addr) (len cap : Nat) (l : List Nat) (D G : Nat) (w : World) (hown : Own w base v pre) (hb : base ≤ w.heap.size) (hlen : len = l.length) (hB : Rd n64 w a cap l) (h64 : ∀ x ∈ l, x < 18446744073709551616) (hl : l.length ≤ 2000000) (hD : D ≤ 32) (hw : B.width l ≤ D) (hpl : pre.length ≤ 200000000) (hG : (l.length + 7) / 8 = G) (hpd : pre ++ M.digs (2 * G + 1) = pd) :
    Calls Tryz.prog 104 #[v, .slice a len cap, .int .i64 D] w fun e w' => ∃ v', e = .returned v' ∧ Own w' base v' (pd ++ B.pack D (R.pad (8 * G) l)) ∧ Below base w w' := by
  subst hlen
  have hcl := hB.1
  have hcm := hB.2.1
  unfold maxLen at hcm
  have hlG : l.length ≤ 8 * G := by omega
  have hGb : G ≤ 250001 := by omega
  obtain ⟨X, hX⟩ : ∃ X, X = R.pad (8 * G) l := ⟨_, rfl⟩
  have hXl : X.length = 8 * G := by rw [hX]; exact R.pad_len hlG
  have hXm : ∀ x ∈ X, x ∈ l ∨ x = 0 := fun x hx => by rw [hX] at hx; exact R.pad_mem hx
  have hX64 : ∀ x ∈ X, x < 18446744073709551616 := fun x hx => by
    rcases hXm x hx with h | h
    · exact h64 x h
    · omega
  have hXw : B.width X ≤ D := (B.width_le D X).2 fun x hx => by
    rcases hXm x hx with h | h
    · exact B.fits hw x h
    · rw [h]; exact Nat.two_pow_pos D
  have hsp := splice_pad (8 * G) l hlG
  rw [← hX] at hsp ⊢
  obtain ⟨PP, hPP⟩ : ∃ PP, PP = B.pack D X := ⟨_, rfl⟩
  have hpk : B.pck X (D : Int) = (B.pack D X, 0) := B.pck_ok (by omega) hXw
  have hPl : PP.length ≤ 32 * G := by
    rw [hPP, B.pack_len]; unfold B.size
    have h1 : X.length * D ≤ X.length * 32 := Nat.mul_le_mul_left _ hD
    omega
  rw [← hPP] at hpk ⊢
  have HPK : Hid (B.pck X (D : Int) = (PP, 0)) := hpk
  have HX64 : Hid (∀ x ∈ X, x < 18446744073709551616) := hX64
  have HXl : Hid (8 * G = X.length) := hXl.symm
  have HSP : Hid (splice (List.replicate (8 * G) (n64 0)) 0 (l.map n64) = X.map n64) := hsp
  have HPD : Hid (pre ++ M.digs (2 * G + 1) = pd) := hpd
  have hdl := M.digs_len (2 * G + 1)
  have hpdl : pd.length ≤ 200000010 := by rw [← hpd]; simp; omega
  have HO : Hid (Own w base v pre) := hown
  have HB0 : Hid (base ≤ w.heap.size) := hb
  have HRd : Hid (Rd n64 w a cap l) := hB
  have HG : Hid ((l.length + 7) / 8 = G) := hG
  clear hX hXm hX64 hXw hsp hPP hpk hXl hpd hown hb hB hG h64
  go_enter Tryz.func104, Tryz.ntmps104
  go_wp2_with fail
  refine (groupsOf_is _ l.length _ rfl (by omega) G HG.out).mono ?_
  rintro e wq ⟨rfl, hw'⟩
  have hw'' := hw'.symm
  clear hw'
  subst hw''
  obtain ⟨C, hC⟩ : ∃ C, C = l.map n64 := ⟨_, rfl⟩
  have hCl : C.length = l.length := by rw [hC]; simp
  have HC : Hid (C = l.map n64) := hC
  have hone : ∀ v ∈ C, v.oneCell' = true := by rw [hC]; intro u hu; obtain ⟨y, _, rfl⟩ := List.mem_map.1 hu; rfl
  clear hC
  go_wp2_with (first
    | (at_make; refine wpList_make_row (enc := n64) rfl _ _ 77 69 rfl 0 8 Tryz.underlying77 rfl Tryz.info69 _ _ (8 * G) rfl rfl (by omega) (by omega) (by omega) (by omega) ?_; intro w1 hr1 hb1; have hg1 : w1.heap[w.heap.size]? = some (.cells (List.replicate (8 * G) (n64 0)).toArray 69 (0, 0)) := (by have h := hr1; unfold RowAt at h; rw [List.map_replicate] at h; exact h); clear hr1)
    | (have _t := hg1; refine wpList_copy_splice rfl (.tmp 17) (.tmp 18) 77 77 rfl 69 Tryz.underlying77 Tryz.size69 _ _ _ _ _ _ rfl rfl w.heap.size 0 (List.replicate (8 * G) (n64 0)) 69 hg1 C ?c1 ?c2 ?c3 hone w.heap.size w hb1 (Nat.le_refl _) ?_; rotate_right; intro w2 hg2 hb2; clear hg1)
    | fail)
  case c1 => rw [hCl]; exact (Nat.min_eq_left (by omega)).symm
  case c2 =>
    intro h0
    obtain ⟨b, off, rfl, _⟩ := HRd.out.at (k := 0) (by omega)
    refine ⟨_, rfl, fun j u hu => ?_⟩
    rw [HC.out, List.getElem?_map] at hu
    obtain ⟨y, hy, rfl⟩ := Option.map_eq_some_iff.1 hu
    obtain ⟨b', off', hbo, hc⟩ := HRd.out.2.2.2 j y hy
    simp at hbo
    obtain ⟨rfl, rfl⟩ := hbo
    rw [add_none, hb1.cell (p := ⟨b, off + j, none⟩) (World.block_lt_of_cell? w _ hc)]
    exact hc
  case c3 => rw [hCl]; simp; omega
  have hrow : RowAt n64 69 w2 w.heap.size X := by
    have h := hg2.out
    rw [HC.out, HSP.out] at h
    exact h
  have hx2 : Ex w w2 := hb2
  have HX2 : Hid (Ex w w2) := hx2
  have HRX : Hid (Rd n64 w2 (some ⟨w.heap.size, 0, none⟩) (8 * G) X) := hrow.rd HXl.out (by omega)
  clear hrow hg2 hx2 hb1 hb2
  refine (pack_is _ _ _ X _ _ HXl.out HRX.out HX64.out (by have := HXl.out; omega) (by omega) (by omega) PP 0 HPK.out).mono ?_
  rintro e w3 ⟨vp, rfl, ⟨ap, cp, rfl, hbp⟩, hfr, hx3⟩
  have HFr : Hid (∀ g, (Value.slice ap PP.length cp).ownBlock = some g → v.ownBlock ≠ some g) := (fun g hg e => by
    have h1 := hfr g hg
    have h2 := (World.ownsRow.lt HO.out g e).2
    have h3 := HX2.out.size
    omega : ∀ g, (Value.slice ap PP.length cp).ownBlock = some g → v.ownBlock ≠ some g)
  clear hfr
  have hx03 : Ex w w3 := HX2.out.trans hx3
  have HX3 : Hid (Ex w w3) := hx03
  have HBP : Hid (Byt w3 ap cp PP) := hbp
  clear hx3 hbp hx03
  go_wp2_with fail
  refine (put_is none 0 0 [] (M.digs (2 * G + 1)) _ (2 * G + 1) _ (by omega) rfl (Byt.nil _) rfl (by omega) (by simp)).mono ?_
  rintro e w4 ⟨v4, rfl, ho4, hb4⟩
  obtain ⟨a4, c4, rfl, hby4⟩ := ho4.byt
  have hx4 : Ex w3 w4 := hb4
  have HX4 : Hid (Ex w w4) := HX3.out.trans hx4
  have HO4 : Hid (Own w4 base v pre) := HO.out.later HX4.out
  have HBy4 : Hid (Byt w4 a4 c4 (M.digs (2 * G + 1))) := hby4
  have HBP4 : Hid (Byt w4 ap cp PP) := HBP.out.below hx4
  have hbs4 : base ≤ w4.heap.size := Nat.le_trans HB0.out HX4.out.size
  clear ho4 hb4 hby4 hx4
  go_wp2_with (first
    | (at_builtin; have _t := HO4; refine wpList_append_byt rfl (.tmp 26) (.tmp 31) rfl base _ pre rfl HO4.out a4 _ c4 (M.digs (2 * G + 1)) rfl rfl HBy4.out ?x1 hbs4 ?_; rotate_right; intro v5 w5 ho5 hg5; have HO5 : Hid (Own w5 base v5 pd) := (by rw [HPD.out] at ho5; exact ho5 : Own w5 base v5 pd); have HB5 : Hid (Below base w w5) := step_below0 (HX4.out.mono HB0.out) hbs4 HO4.out hg5; have HBP5 : Hid (Byt w5 ap cp PP) := Byt.far (n := PP.length) HBP4.out hg5 HFr.out; have hbs5 : base ≤ w5.heap.size := Nat.le_trans HB0.out HB5.out.size; clear HO4 ho5 hg5)
    | (at_builtin; have _t := HO5; refine wpList_append_byt rfl (.tmp 33) (.tmp 34) rfl base _ pd rfl HO5.out ap _ cp PP rfl rfl HBP5.out ?x2 hbs5 ?_; rotate_right; intro v6 w6 ho6 hg6; have HB6 : Hid (Below base w w6) := step_below0 HB5.out hbs5 HO5.out hg6; have HO6 : Hid (Own w6 base v6 (pd ++ PP)) := ho6; clear HO5 ho6 hg6)
    | fail)
  case x1 => omega
  case x2 => omega
  go_ret
  exact ⟨_, rfl, HO6.out, HB6.out⟩
end Go.Proofs.YtnmonoafjijfhaaGreat
namespace Go.Proofs.YtnmonoafjijfhaaGreat
open Go.RowKit
set_option linter.unusedVariables false

set_option maxRecDepth 100000 in
theorem enc_refuse (a : Option Addr) (cap : Nat) (l : List Nat) (wd : Int) (w : World) (hB : Rd n64 w a cap l) (h64 : ∀ x ∈ l, x < 18446744073709551616) (h : wd < 0 ∨ 32 < wd ∨ wd.toNat < B.width l) :
    Calls Tryz.prog 64 #[.slice a l.length cap, .int .i64 wd] w fun e w' => ∃ v, e = .returned (.tuple #[v, .int .i64 15]) ∧ Own w' w.heap.size v [] ∧ Ex w w' := by
  have HB : Hid (Rd n64 w a cap l) := hB
  have H64 : Hid (∀ x ∈ l, x < 18446744073709551616) := h64
  clear hB h64
  by_cases a1 : 0 ≤ wd ∧ wd ≤ 32
  · have T1 : Hid (decide (0 ≤ wd ∧ wd ≤ 32) = true) := (by simp; omega : decide (0 ≤ wd ∧ wd ≤ 32) = true)
    have t3 : decide (wd < (B.width l : Int)) = true := by simp; omega
    go_enter Tryz.func64, Tryz.ntmps64
    go_wp2_with fail
    refine (isW_is _ _ true T1.out).mono ?_
    rintro e wq ⟨rfl, hw'⟩
    have hw'' := hw'.symm
    clear hw'
    subst hw''
    go_wp2_with fail
    refine (width_any a cap l _ HB.out H64.out).mono ?_
    rintro e wq ⟨rfl, hw'⟩
    have hw'' := hw'.symm
    clear hw'
    subst hw''
    go_wp2
    go_ret2
    exact ⟨_, rfl, own_none _ _, Ex.refl _⟩
  · have T1 : Hid (decide (0 ≤ wd ∧ wd ≤ 32) = false) := (by simp; omega : decide (0 ≤ wd ∧ wd ≤ 32) = false)
    go_enter Tryz.func64, Tryz.ntmps64
    go_wp2_with fail
    refine (isW_is _ _ false T1.out).mono ?_
    rintro e wq ⟨rfl, hw'⟩
    have hw'' := hw'.symm
    clear hw'
    subst hw''
    go_wp2
    go_ret2
    exact ⟨_, rfl, own_none _ _, Ex.refl _⟩

/-- A slice's length. -/
def lenOf : Value → Nat
  | .slice _ n _ => n
  | _ => 0
/-- What is left of a list behind its first numbers: what a slice of it is. -/
theorem Rd.rest {w : World} {a : Option Addr} {cap : Nat} {l : List Nat} (h : Rd n64 w a cap l) (k : Nat) (hk : k ≤ l.length) : Rd n64 w (a.map (·.add k)) (cap - k) (l.drop k) := by
  have h1 := h.sub k (l.length - k) (by omega)
  rw [List.take_of_length_le (by simp)] at h1
  exact h1
theorem Rd.none_ {w : World} (a : Option Addr) {l : List Nat} (hl : l.length = 0) : Rd n64 w a 0 l := by
  have := List.eq_nil_of_length_eq_zero hl
  subst this
  exact ⟨by simp, by simp [maxLen], fun _ => rfl, fun i x hi => by simp at hi⟩
set_option maxRecDepth 100000 in
set_option maxHeartbeats 2000000 in
theorem enc_main (a : Option Addr) (cap : Nat) (l : List Nat) (D : Nat) (w : World) (hB : Rd n64 w a cap l) (h64 : ∀ x ∈ l, x < 18446744073709551616) (hl : l.length ≤ 2000000) (hD : D ≤ 32) (hw : B.width l ≤ D) :
    Calls Tryz.prog 64 #[.slice a l.length cap, .int .i64 D] w fun e w' => ∃ v, e = .returned (.tuple #[v, .int .i64 0]) ∧ Own w' w.heap.size v (R.enc D l) ∧ Ex w w' := by
  obtain ⟨base, hbase⟩ : ∃ base, base = w.heap.size := ⟨_, rfl⟩
  have HBa : Hid (base = w.heap.size) := hbase
  have hel := enc_len hD l.length l (Nat.le_refl _)
  have HB : Hid (Rd n64 w a cap l) := hB
  have H64 : Hid (∀ x ∈ l, x < 18446744073709551616) := h64
  have HW : Hid (∀ x ∈ l, x < 2 ^ D) := (fun x hx => B.fits hw x hx : ∀ x ∈ l, x < 2 ^ D)
  have T1 : Hid (decide (0 ≤ (D : Int) ∧ (D : Int) ≤ 32) = true) := (by simp; omega : decide (0 ≤ (D : Int) ∧ (D : Int) ≤ 32) = true)
  have t3 : decide ((D : Int) < (B.width l : Int)) = false := by simp; omega
  have t4 : decide (D < B.width l) = false := by simp; omega
  have hown0 : Hid (Own w base (.slice none 0 0) []) := own_none w base
  have hbel0 : Hid (Below base w w) := Below.refl _ _
  clear hB h64 hbase
  go_enter Tryz.func64, Tryz.ntmps64
  go_wp2_with fail
  refine (isW_is _ _ true T1.out).mono ?_
  rintro e wq ⟨rfl, hw'⟩
  have hw'' := hw'.symm
  clear hw'
  subst hw''
  go_wp2_with fail
  refine (width_any a cap l _ HB.out H64.out).mono ?_
  rintro e wq ⟨rfl, hw'⟩
  have hw'' := hw'.symm
  clear hw'
  subst hw''
  go_wp2
  go_loopw [0, 6] (fun s v wr => ∃ (m : Nat) (L : List Nat) (pre : List UInt8) (a1 : Option Addr) (c1 : Nat), m ≤ l.length ∧ s = .slice a1 m c1 ∧ Hid (m = L.length) ∧ Hid (Rd n64 w a1 c1 L) ∧ Hid (∀ x ∈ L, x ∈ l) ∧ Hid (pre ++ R.enc D L = R.enc D l) ∧ Hid (Own wr base v pre) ∧ Hid (Below base w wr)) (fun s _ _ => lenOf s)
  case atStart => exact ⟨l.length, l, [], a, cap, Nat.le_refl _, rfl, (rfl : l.length = l.length), HB, (fun x hx => hx : ∀ x ∈ l, x ∈ l), (by simp : [] ++ R.enc D l = R.enc D l), hown0, hbel0⟩
  case round =>
    obtain ⟨m, L, pre, a1, c1, hml, rfl, HM, HR, HMem, HE, HO, HBl⟩ := hrel
    clear hown0 hbel0
    have hpre : pre.length ≤ 50 * l.length := by have := congrArg List.length HE.out; simp at this; omega
    have hsz : base ≤ wr.heap.size := by rw [HBa.out]; exact HBl.out.size
    have hc1 : m ≤ c1 := by rw [HM.out]; exact HR.out.1
    have hc2 : c1 ≤ 9223372036854775807 := by have := HR.out.2.1; unfold maxLen at this; exact this
    by_cases hlt : 0 < m
    · have tm : decide (0 < (m : Int)) = true := by simp; omega
      have tmi : (0 : Int) < (m : Int) := by omega
      have hLp : 0 < L.length := by have := HM.out; omega
      have hLne : L ≠ [] := List.length_pos_iff.1 hLp
      have hee := R.enc_eq D hLne
      have hxw : Ex w wr := by have := HBl.out; rw [HBa.out] at this; exact this
      have HXw : Hid (Ex w wr) := hxw
      obtain ⟨b1, o1, rfl, hc⟩ := HR.out.at hLp
      have hx64 := H64.out L[0] (HMem.out _ (List.getElem_mem hLp))
      obtain ⟨x, hx⟩ : ∃ x, x = L[0] := ⟨_, rfl⟩
      have hhd : L.headD 0 = x := by rw [hx]; cases L with | nil => exact absurd rfl hLne | cons y r => rfl
      rw [← hx] at hc hx64
      rw [hhd] at hee
      rw [Nat.add_zero] at hc
      have HCX : Hid (w.cell? ⟨b1, o1, none⟩ = some (.int .u64 (x : Int))) := hc
      have HRr : Hid (Rd n64 wr (some ⟨b1, o1, none⟩) c1 L) := HR.out.below hxw
      clear hc hx hhd hxw
      by_cases h8 : 8 ≤ R.runLen L
      · rw [if_pos h8] at hee
        have T8 : Hid (decide (8 ≤ R.runLen L) = true) := (by simpa using h8 : decide (8 ≤ R.runLen L) = true)
        obtain ⟨n, hn⟩ : ∃ n, R.runLen L = n := ⟨_, rfl⟩
        have hnl : n ≤ m := by have := R.runLen_le L; have := HM.out; omega
        rw [hn] at hee h8
        have HN : Hid (R.runLen L = n) := hn
        have HE2 : Hid ((pre ++ M.digs (2 * n)) ++ R.few D x ++ R.enc D (L.drop n) = R.enc D l) := (by rw [← HE.out, hee]; simp : (pre ++ M.digs (2 * n)) ++ R.few D x ++ R.enc D (L.drop n) = R.enc D l)
        have HM2 : Hid (m - n = (L.drop n).length) := (by rw [List.length_drop, ← HM.out] : m - n = (L.drop n).length)
        have HMem2 : Hid (∀ x ∈ L.drop n, x ∈ l) := (fun x hx => HMem.out x (List.mem_of_mem_drop hx) : ∀ x ∈ L.drop n, x ∈ l)
        clear hn hee hLne
        by_cases hck : c1 = n
        · have HR2 : Hid (Rd n64 w (some ⟨b1, o1, none⟩) 0 (L.drop n)) := Rd.none_ _ (by have := HM2.out; omega)
          have hck1 : c1 ≤ n := by omega
          have hck2 : n ≤ c1 := by omega
          have hck3 : c1 - n = 0 := by omega
          have hmn : m - n = 0 := by omega
          clear hck
          go_wp2_with fail
          refine (beginsRun_is _ _ _ L _ HM.out HRr.out true T8.out).mono ?_
          rintro e w1 ⟨rfl, hx1⟩
          have HR1 : Hid (Rd n64 w1 (some ⟨b1, o1, none⟩) c1 L) := HRr.out.below hx1
          have HX1 : Hid (Ex wr w1) := hx1
          clear hx1
          go_wp2_with fail
          refine (runSize_is _ _ _ L _ HM.out hLp HR1.out n HN.out).mono ?_
          rintro e w2 ⟨rfl, hx2⟩
          have HX2 : Hid (Ex wr w2) := HX1.out.trans hx2
          have hcx : w2.cell? ⟨b1, o1, none⟩ = some (.int .u64 (x : Int)) := cell_ex (cell_ex HCX.out HXw.out) HX2.out
          have HO2 : Hid (Own w2 base u6 pre) := HO.out.later HX2.out
          have hs2 : base ≤ w2.heap.size := Nat.le_trans hsz HX2.out.size
          clear hx2
          go_wp2_with fail
          refine (addRun_any base _ pre _ x n D _ HO2.out hs2 hx64 (by omega) hD (by omega) rfl).mono ?_
          rintro e w3 ⟨v3, rfl, ho3, hb3⟩
          have HO3 : Hid (Own w3 base v3 (pre ++ M.digs (2 * n) ++ R.few D x)) := ho3
          have HB3 : Hid (Below base w w3) := (HBl.out.trans (HX2.out.mono hsz)).trans hb3
          clear ho3 hb3 hcx
          go_wp2
          go_roundw
          case rel => exact ⟨m - n, L.drop n, _, some ⟨b1, o1, none⟩, 0, by omega, by simp [hmn], HM2, HR2, HMem2, HE2, HO3, HB3⟩
          case measure => simp [lenOf]; omega
        · have HR2 : Hid (Rd n64 w (some ⟨b1, o1 + n, none⟩) (c1 - n) (L.drop n)) := (by have h := HR.out.rest n (by have := HM.out; omega); rw [Option.map_some, add_none] at h; exact h : Rd n64 w (some ⟨b1, o1 + n, none⟩) (c1 - n) (L.drop n))
          have hck3 : ¬ c1 - n = 0 := by omega
          go_wp2_with fail
          refine (beginsRun_is _ _ _ L _ HM.out HRr.out true T8.out).mono ?_
          rintro e w1 ⟨rfl, hx1⟩
          have HR1 : Hid (Rd n64 w1 (some ⟨b1, o1, none⟩) c1 L) := HRr.out.below hx1
          have HX1 : Hid (Ex wr w1) := hx1
          clear hx1
          go_wp2_with fail
          refine (runSize_is _ _ _ L _ HM.out hLp HR1.out n HN.out).mono ?_
          rintro e w2 ⟨rfl, hx2⟩
          have HX2 : Hid (Ex wr w2) := HX1.out.trans hx2
          have hcx : w2.cell? ⟨b1, o1, none⟩ = some (.int .u64 (x : Int)) := cell_ex (cell_ex HCX.out HXw.out) HX2.out
          have HO2 : Hid (Own w2 base u6 pre) := HO.out.later HX2.out
          have hs2 : base ≤ w2.heap.size := Nat.le_trans hsz HX2.out.size
          clear hx2
          go_wp2_with fail
          refine (addRun_any base _ pre _ x n D _ HO2.out hs2 hx64 (by omega) hD (by omega) rfl).mono ?_
          rintro e w3 ⟨v3, rfl, ho3, hb3⟩
          have HO3 : Hid (Own w3 base v3 (pre ++ M.digs (2 * n) ++ R.few D x)) := ho3
          have HB3 : Hid (Below base w w3) := (HBl.out.trans (HX2.out.mono hsz)).trans hb3
          clear ho3 hb3 hcx
          go_wp2
          go_roundw
          case rel => exact ⟨m - n, L.drop n, _, some ⟨b1, o1 + n, none⟩, c1 - n, by omega, rfl, HM2, HR2, HMem2, HE2, HO3, HB3⟩
          case measure => simp [lenOf]; omega
      · rw [if_neg h8] at hee
        have T8 : Hid (decide (8 ≤ R.runLen L) = false) := (by simpa using h8 : decide (8 ≤ R.runLen L) = false)
        obtain ⟨G, hG⟩ : ∃ G, G = R.groups L := ⟨_, rfl⟩
        have hGl := R.groups_le L
        have hG1 := R.groups_pos hLne
        rw [← hG] at hee hGl hG1
        rw [← HM.out] at hGl
        obtain ⟨n, hn⟩ : ∃ n, n = min (8 * G) m := ⟨_, rfl⟩
        have HN : Hid (min (8 * R.groups L) L.length = n) := (by rw [← hG, ← HM.out, hn] : min (8 * R.groups L) L.length = n)
        have hnl : n ≤ m := by omega
        have hn1 : 1 ≤ n := by omega
        have HG8 : Hid ((n + 7) / 8 = G) := (by omega : (n + 7) / 8 = G)
        have htk : L.take (8 * G) = L.take n := by rw [List.take_eq_take_iff, ← HM.out]; omega
        have hdr : L.drop (8 * G) = L.drop n := by
          by_cases hc : 8 * G ≤ m
          · rw [show n = 8 * G by omega]
          · exact (List.drop_of_length_le (by have := HM.out; omega)).trans (List.drop_of_length_le (by have := HM.out; omega)).symm
        rw [htk, hdr] at hee
        have HE2 : Hid ((pre ++ M.digs (2 * G + 1)) ++ B.pack D (R.pad (8 * G) (L.take n)) ++ R.enc D (L.drop n) = R.enc D l) := (by rw [← HE.out, hee]; simp : (pre ++ M.digs (2 * G + 1)) ++ B.pack D (R.pad (8 * G) (L.take n)) ++ R.enc D (L.drop n) = R.enc D l)
        have HM2 : Hid (m - n = (L.drop n).length) := (by rw [List.length_drop, ← HM.out] : m - n = (L.drop n).length)
        have HMem2 : Hid (∀ x ∈ L.drop n, x ∈ l) := (fun x hx => HMem.out x (List.mem_of_mem_drop hx) : ∀ x ∈ L.drop n, x ∈ l)
        have HLt : Hid (n = (L.take n).length) := (by rw [List.length_take, ← HM.out]; omega : n = (L.take n).length)
        have HT64 : Hid (∀ x ∈ L.take n, x < 18446744073709551616) := (fun x hx => H64.out x (HMem.out x (List.mem_of_mem_take hx)) : ∀ x ∈ L.take n, x < 18446744073709551616)
        have HTW : Hid (B.width (L.take n) ≤ D) := (B.width_le D _).2 fun x hx => HW.out x (HMem.out x (List.mem_of_mem_take hx))
        have HG9 : Hid (((L.take n).length + 7) / 8 = G) := (by rw [← HLt.out]; exact HG8.out : ((L.take n).length + 7) / 8 = G)
        have hni : (n : Int) ≤ (c1 : Int) := by omega
        clear hee hLne hG hn htk hdr
        by_cases hck : c1 = n
        · have HR2 : Hid (Rd n64 w (some ⟨b1, o1, none⟩) 0 (L.drop n)) := Rd.none_ _ (by have := HM2.out; omega)
          have hck1 : c1 ≤ n := by omega
          have hck2 : n ≤ c1 := by omega
          have hck3 : c1 - n = 0 := by omega
          have hmn : m - n = 0 := by omega
          clear hck
          go_wp2_with fail
          refine (beginsRun_is _ _ _ L _ HM.out HRr.out false T8.out).mono ?_
          rintro e w1 ⟨rfl, hx1⟩
          have HR1 : Hid (Rd n64 w1 (some ⟨b1, o1, none⟩) c1 L) := HRr.out.below hx1
          have HX1 : Hid (Ex wr w1) := hx1
          clear hx1
          go_wp2_with fail
          refine (groupsSize_is _ _ _ L _ HM.out hLp (by have := HM.out; omega) HR1.out n HN.out).mono ?_
          rintro e w2 ⟨rfl, hx2⟩
          have HX2 : Hid (Ex wr w2) := HX1.out.trans hx2
          have HO2 : Hid (Own w2 base u6 pre) := HO.out.later HX2.out
          have hs2 : base ≤ w2.heap.size := Nat.le_trans hsz HX2.out.size
          have HR3 : Hid (Rd n64 w2 (some ⟨b1, o1, none⟩) c1 (L.take n)) := (HR1.out.below hx2).take n
          clear hx2
          go_wp2_with fail
          refine (addGroups_any base _ pre _ _ _ _ (L.take n) D G _ HO2.out hs2 HLt.out HR3.out HT64.out (by have := HLt.out; omega) hD HTW.out (by omega) HG9.out rfl).mono ?_
          rintro e w3 ⟨v3, rfl, ho3, hb3⟩
          have HO3 : Hid (Own w3 base v3 (pre ++ M.digs (2 * G + 1) ++ B.pack D (R.pad (8 * G) (L.take n)))) := ho3
          have HB3 : Hid (Below base w w3) := (HBl.out.trans (HX2.out.mono hsz)).trans hb3
          clear ho3 hb3
          go_wp2
          go_roundw
          case rel => exact ⟨m - n, L.drop n, _, some ⟨b1, o1, none⟩, 0, by omega, by simp [hmn], HM2, HR2, HMem2, HE2, HO3, HB3⟩
          case measure => simp [lenOf]; omega
        · have HR2 : Hid (Rd n64 w (some ⟨b1, o1 + n, none⟩) (c1 - n) (L.drop n)) := (by have h := HR.out.rest n (by have := HM.out; omega); rw [Option.map_some, add_none] at h; exact h : Rd n64 w (some ⟨b1, o1 + n, none⟩) (c1 - n) (L.drop n))
          have hck3 : ¬ c1 - n = 0 := by omega
          go_wp2_with fail
          refine (beginsRun_is _ _ _ L _ HM.out HRr.out false T8.out).mono ?_
          rintro e w1 ⟨rfl, hx1⟩
          have HR1 : Hid (Rd n64 w1 (some ⟨b1, o1, none⟩) c1 L) := HRr.out.below hx1
          have HX1 : Hid (Ex wr w1) := hx1
          clear hx1
          go_wp2_with fail
          refine (groupsSize_is _ _ _ L _ HM.out hLp (by have := HM.out; omega) HR1.out n HN.out).mono ?_
          rintro e w2 ⟨rfl, hx2⟩
          have HX2 : Hid (Ex wr w2) := HX1.out.trans hx2
          have HO2 : Hid (Own w2 base u6 pre) := HO.out.later HX2.out
          have hs2 : base ≤ w2.heap.size := Nat.le_trans hsz HX2.out.size
          have HR3 : Hid (Rd n64 w2 (some ⟨b1, o1, none⟩) c1 (L.take n)) := (HR1.out.below hx2).take n
          clear hx2
          go_wp2_with fail
          refine (addGroups_any base _ pre _ _ _ _ (L.take n) D G _ HO2.out hs2 HLt.out HR3.out HT64.out (by have := HLt.out; omega) hD HTW.out (by omega) HG9.out rfl).mono ?_
          rintro e w3 ⟨v3, rfl, ho3, hb3⟩
          have HO3 : Hid (Own w3 base v3 (pre ++ M.digs (2 * G + 1) ++ B.pack D (R.pad (8 * G) (L.take n)))) := ho3
          have HB3 : Hid (Below base w w3) := (HBl.out.trans (HX2.out.mono hsz)).trans hb3
          clear ho3 hb3
          go_wp2
          go_roundw
          case rel => exact ⟨m - n, L.drop n, _, some ⟨b1, o1 + n, none⟩, c1 - n, by omega, rfl, HM2, HR2, HMem2, HE2, HO3, HB3⟩
          case measure => simp [lenOf]; omega
    · have tm : decide (0 < (m : Int)) = false := by simp; omega
      have hfin : pre = R.enc D l := by
        have h0 : L = [] := List.eq_nil_of_length_eq_zero (by have := HM.out; omega)
        have := HE.out; rw [h0, R.enc_nil] at this; simpa using this
      have HFin : Hid (pre = R.enc D l) := hfin
      clear hfin
      go_wp2
      go_ret2
      refine ⟨_, rfl, ?_, by have := HBl.out; rw [HBa.out] at this; exact this⟩
      have h := HO.out
      have e := HFin.out
      rw [HBa.out] at h
      subst e
      exact h
/-- Encode: what it answers is new. -/
theorem enc_own (a : Option Addr) (n cap : Nat) (l : List Nat) (wd : Int) (w : World) (hn : n = l.length) (hB : Rd n64 w a cap l) (h64 : ∀ x ∈ l, x < 18446744073709551616) (hl : l.length ≤ 2000000) (r : List UInt8) (e0 : Nat) (hr : R.encE l wd = (r, e0)) :
    Calls Tryz.prog 64 #[.slice a n cap, .int .i64 wd] w fun e w' => ∃ v, e = .returned (.tuple #[v, .int .i64 e0]) ∧ Own w' w.heap.size v r ∧ Ex w w' := by
  subst hn
  unfold R.encE at hr
  by_cases h : wd < 0 ∨ 32 < wd ∨ wd.toNat < B.width l
  · rw [if_pos h] at hr
    simp only [Prod.mk.injEq] at hr
    obtain ⟨rfl, rfl⟩ := hr
    exact enc_refuse a cap l wd w hB h64 h
  · rw [if_neg h] at hr
    simp only [Prod.mk.injEq] at hr
    obtain ⟨rfl, rfl⟩ := hr
    obtain ⟨D, rfl⟩ := Int.eq_ofNat_of_zero_le (show 0 ≤ wd by omega)
    exact enc_main a cap l D w hB h64 hl (by omega) (by simp at h; omega)
end Go.Proofs.YtnmonoafjijfhaaGreat
