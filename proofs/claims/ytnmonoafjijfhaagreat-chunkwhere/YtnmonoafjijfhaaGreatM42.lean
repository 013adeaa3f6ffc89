/-
  A column in a block; the landed chunk's read.
-/
import Derived.Test.YtnmonoafjijfhaaGreatM40
import Derived.Test.YtnmonoafjijfhaaGreatM41
namespace Go.Proofs.YtnmonoafjijfhaaGreat
open Go.RowKit
set_option linter.unusedVariables false
set_option linter.unusedSimpArgs false
/-- A column as a value, in a block. -/
def cov (f : Nat) (x y : SV) : Value := .agg #[.int .u64 (f : Int), sv x, sv y]
abbrev cob (f : Nat) (x y : SV) : Obj := .cells #[.int .u64 (f : Int), sv x, sv y] 86
abbrev n0 : SV := (none, 0, 0)
def CoAt (w : World) (g : Nat) (f : Nat) (x y : SV) : Prop := w.heap[g]? = some (cob f x y)
theorem CoAt.lt {w : World} {g f : Nat} {x y : SV} (h : CoAt w g f x y) : g < w.heap.size := (Array.getElem?_eq_some_iff.1 h).1
theorem CoAt.all {w : World} {g f : Nat} {x y : SV} (h : CoAt w g f x y) : w.cell? ⟨g, 0, none⟩ = some (.int .u64 (f : Int)) ∧ w.cell? ⟨g, 1, none⟩ = some (sv x) ∧ w.cell? ⟨g, 2, none⟩ = some (sv y) := by
  refine ⟨?_, ?_, ?_⟩ <;> (rw [cell_of_row w g _ _ 86 (0, 0) h]; rfl)
theorem CoAt.fro {w : World} {g f : Nat} {x y : SV} (h : CoAt w g f x y) : w.frozen? ⟨g, 0, none⟩ = false ∧ w.frozen? ⟨g, 1, none⟩ = false ∧ w.frozen? ⟨g, 2, none⟩ = false := ⟨frozen_of_row _ _ _ _ _ h, frozen_of_row _ _ _ _ _ h, frozen_of_row _ _ _ _ _ h⟩
theorem CoAt.below {w w' : World} {g f : Nat} {x y : SV} (h : CoAt w g f x y) (hx : Ex w w') : CoAt w' g f x y := by
  unfold CoAt; rw [hx.block g h.lt]; exact h
theorem CoAt.far {w w' : World} {g f : Nat} {x y : SV} {row : Option Nat} (h : CoAt w g f x y) (hg : w.grownBy w' row) (hne : row ≠ some g) : CoAt w' g f x y := by
  unfold CoAt; rw [hg.block g h.lt (fun e => hne e.symm)]; exact h
theorem CoAt.new (w : World) (f : Nat) (x y : SV) : CoAt (w.alloc (cob f x y)) w.heap.size f x y := heap_alloc_new w _
abbrev coset (w : World) (g : Nat) (f : Nat) (x y : SV) : World := ((w.setCell ⟨g, 0, none⟩ (.int .u64 (f : Int))).setCell ⟨g, 1, none⟩ (sv x)).setCell ⟨g, 2, none⟩ (sv y)
theorem CoAt.store {w : World} {g f0 : Nat} {x0 y0 : SV} (h : CoAt w g f0 x0 y0) (f : Nat) (x y : SV) : CoAt (coset w g f x y) g f x y := by
  have h1 : CoAt (w.setCell ⟨g, 0, none⟩ (.int .u64 (f : Int))) g f x0 y0 := by unfold CoAt; rw [heap_setCell_same w g 0 _ 86 _ h]; rfl
  have h2 : CoAt ((w.setCell ⟨g, 0, none⟩ (.int .u64 (f : Int))).setCell ⟨g, 1, none⟩ (sv x)) g f x y0 := by unfold CoAt; rw [heap_setCell_same _ g 1 _ 86 _ h1]; rfl
  unfold CoAt; rw [heap_setCell_same _ g 2 _ 86 _ h2]; rfl
theorem grown_coset (w : World) (g f : Nat) (x y : SV) : w.grownBy (coset w g f x y) (some g) := grown_tr (grown_tr (grown_set1 _ _ _ _) (grown_set1 _ _ _ _)) (grown_set1 _ _ _ _)
theorem load_col {w9 : World} {g f : Nat} {x y : SV} (h : CoAt w9 g f x y) : (loadVar 86 ⟨g, 0, none⟩).run Tryz.prog w9 = .ok (cov f x y) w9 := by
  obtain ⟨c0, c1, c2⟩ := h.all
  clear h
  simp [go_sem, cov, sv, c0, c1, c2]
theorem res_col2 {fn : Func} {tmps : Array Value} {w9 : World} {g i j f : Nat} {x y : SV} {d : Value} (hfn : fn.results = #[ResultVar.cell i 86, ResultVar.tmp j]) (ht : tmps.getD i undef = .pointer (some ⟨g, 0, none⟩)) (hj : tmps.getD j undef = d) (h : CoAt w9 g f x y) : (results fn tmps).run Tryz.prog w9 = .ok (.tuple #[cov f x y, d]) w9 := by
  have hl := load_col h
  have ht' : tmps[i]?.getD undef = .pointer (some ⟨g, 0, none⟩) := by simpa using ht
  have hj' : tmps[j]?.getD undef = d := by simpa using hj
  simp [results, hfn, ht', hj', asAddr, Sem.run_bind, Result.andThen, hl]
/-- A slice of these cells. -/
def IsC (l : List Ce) (x : SV) (w : World) : Prop := x.2.1 = l.length ∧ RdC w x.1 x.2.2 l
theorem IsC.below {l : List Ce} {x : SV} {w w' : World} (h : IsC l x w) (hx : Ex w w') : IsC l x w' := ⟨h.1, RdW.below h.2 hx⟩
/-- A slice of these ints. -/
def IsZ (l : List Nat) (x : SV) (w : World) : Prop := x.2.1 = l.length ∧ Rd zn w x.1 x.2.2 l
theorem IsZ.below {l : List Nat} {x : SV} {w w' : World} (h : IsZ l x w) (hx : Ex w w') : IsZ l x w' := ⟨h.1, Rd.below h.2 hx⟩
/-- What read answers: a column of words and places, or none and why. -/
def ReadIs (b : List UInt8) (v : Value) (w0 w : World) : Prop :=
  ((Ck.lread b).s.y ≠ 0 → v = .tuple #[cov 0 n0 n0, .int .i64 ((Ck.lread b).s.y : Int)]) ∧
  ((Ck.lread b).s.y = 0 → ∃ x y, v = .tuple #[cov (Ck.lread b).f x y, .int .i64 0] ∧ IsC ((Ck.lread b).words ++ [Rw.none_]) x w ∧ IsZ (Ck.sprd (Ck.lread b).ma (Ck.lread b).pl (Ck.lread b).words.length) y w ∧ ∀ q, (sv x).ownBlock = some q ∨ (sv y).ownBlock = some q → w0.heap.size ≤ q)
theorem read_last {w w5 w8 : World} {c0 base : Nat} {aw : Option Addr} {kw cw : Nat} {W : List Ce} {v8 : Value} {aq : Option Addr} {cq : Nat} {Q : List Nat} {ob : Obj} (hO : OwnC w5 base (.slice aw kw cw) W) (hC : CoAt w5 c0 0 n0 n0) (hbc : c0 < base) (hG : Below c0 w w5) (hsz : c0 ≤ w5.heap.size) (hQ : Rd zn w5 aq cq Q) {kq : Nat} (hkq : Q.length = kq)
    (hq : ∀ q, (Value.slice aq kq cq).ownBlock = some q → (Value.slice aw kw cw).ownBlock ≠ some q) (hqc : ∀ q, (Value.slice aq kq cq).ownBlock = some q → q ≠ c0) (ho : OwnC w8 base v8 (W ++ [Rw.none_])) (hg : (w5.alloc ob).grownBy w8 (Value.slice aw kw cw).ownBlock) :
    ∃ a8 c8 k8, v8 = .slice a8 k8 c8 ∧ Hid (∀ f x y, IsC (W ++ [Rw.none_]) (a8, k8, c8) (coset w8 c0 f x y)) ∧ Hid (CoAt w8 c0 0 n0 n0) ∧ Hid (∀ f x y, Below c0 w (coset w8 c0 f x y)) ∧ Hid (∀ f x y, Rd zn (coset w8 c0 f x y) aq cq Q) ∧ w8.cell? ⟨c0, 0, none⟩ = some (.int .u64 0) ∧ w8.cell? ⟨c0, 1, none⟩ = some (.slice none 0 0) ∧ w8.cell? ⟨c0, 2, none⟩ = some (.slice none 0 0) ∧ w8.frozen? ⟨c0, 0, none⟩ = false ∧ w8.frozen? ⟨c0, 1, none⟩ = false ∧ w8.frozen? ⟨c0, 2, none⟩ = false ∧ Hid (∀ q, (Value.slice a8 k8 c8).ownBlock = some q → base ≤ q) := by
  obtain ⟨a8, c8, rfl, hb8⟩ := ho.rd cc_len
  have hx : Ex w5 (w5.alloc ob) := (Below.refl _ _).alloc (Nat.le_refl _) _
  have hC8 : CoAt w8 c0 0 n0 n0 := (hC.below hx).far hg (fun e => by have := (hO.lt c0 e).1; omega)
  refine ⟨a8, c8, _, rfl, ?_, hC8, ?_, ?_, hC8.all.1, hC8.all.2.1, hC8.all.2.2, hC8.fro.1, hC8.fro.2.1, hC8.fro.2.2, fun q hq => (ho.lt q hq).1⟩
  · intro f x y
    exact ⟨rfl, RdW.far hb8 (grown_coset w8 c0 f x y) (fun h0 q off e e2 => by have e' : a8 = some ⟨q, off, none⟩ := e; have := (ho.lt q (by rw [e']; rfl)).1; simp at e2; omega)⟩
  · intro f x y
    have h := Below.grown (hG.alloc hsz _) hg (by simp; omega) (fun k hk => by have := (hO.lt k hk).1; omega)
    exact Below.setCell (p := ⟨c0, 2, none⟩) (Below.setCell (p := ⟨c0, 1, none⟩) (Below.setCell (p := ⟨c0, 0, none⟩) h (Nat.le_refl _) _) (Nat.le_refl _) _) (Nat.le_refl _) _
  · intro f x y
    have h := rd_far (hQ.below hx) hg (fun h0 q off e e2 => hq q (by rw [e]; rfl) e2)
    exact rd_far h (grown_coset w8 c0 f x y) (fun h0 q off e e2 => hqc q (by rw [e]; rfl) (by simp at e2; exact e2.symm))
theorem ldict_len (b : List UInt8) (s : CS) : (Ck.ldict b s).1.length ≤ 16 := by
  unfold Ck.ldict
  split
  · obtain ⟨⟨r, k, e⟩, hG⟩ : ∃ x, T.dec b s.at' = x := ⟨_, rfl⟩
    rw [hG]
    have := T.dec_all hG
    by_cases he : e = 0
    · exact ((T.fits_iff r).1 (this.1 he).1).2.1
    · simp only; rw [(this.2.1 he).1]; simp
  · simp
set_option maxHeartbeats 8000000 in
set_option maxRecDepth 100000 in
theorem read_is (a : Option Addr) (len cap : Nat) (b : List UInt8) (w : World) (hlen : len = b.length) (hB : Byt w a cap b) (hbl : b.length ≤ 140737488355328) :
    Calls Tryz.prog 44 #[.slice a len cap] w fun e w' => ∃ v, e = .returned v ∧ ReadIs b v w w' ∧ Ex w w' := by
  subst hlen
  have HBL : Hid (b.length ≤ 140737488355328) := hbl
  obtain ⟨W1, hW1⟩ : ∃ W1, W1 = (w.alloc (cob 0 n0 n0)).alloc (rdb a b.length cap ⟨0, 0⟩) := ⟨_, rfl⟩
  have hx1 : Ex w W1 := by rw [hW1]; exact ((Below.refl _ _).alloc (Nat.le_refl _) _).alloc (by simp) _
  have hC1 : CoAt W1 w.heap.size 0 n0 n0 := by rw [hW1]; exact (CoAt.new w 0 n0 n0).below ((Below.refl _ _).alloc (Nat.le_refl _) _)
  have hbk : 0 < b.length → ∀ q off, a = some ⟨q, off, none⟩ → q < w.heap.size := by
    intro h0 q off e
    obtain ⟨q', off', e', hc⟩ := hB.2.2.2 0 h0
    rw [e] at e'
    simp only [Option.some.injEq, Addr.mk.injEq, and_true] at e'
    obtain ⟨rfl, rfl⟩ := e'
    exact World.block_lt_of_cell? w _ hc
  have hR1 : Rdr W1 (w.heap.size + 1) a cap b ⟨0, 0⟩ := by
    refine ⟨?_, hB.below hx1, fun h0 q off e => by have := hbk h0 q off e; omega⟩
    have h := heap_alloc_new (w.alloc (cob 0 n0 n0)) (rdb a b.length cap ⟨0, 0⟩)
    rw [← hW1] at h
    have e : (w.alloc (cob 0 n0 n0)).heap.size = w.heap.size + 1 := by simp
    rw [e] at h
    exact h
  have HX1 : Hid (Ex w W1) := hx1
  have HC1 : Hid (CoAt W1 w.heap.size 0 n0 n0) := hC1
  have HR1 : Hid (Rdr W1 (w.heap.size + 1) a cap b ⟨0, 0⟩) := hR1
  have HW1 : Hid (W1 = (w.alloc (.cells #[.int .u64 0, .slice none 0 0, .slice none 0 0] 86)).alloc (.cells #[.slice a b.length cap, .int .i64 0, .int .i64 0] 133)) := hW1
  obtain ⟨⟨F, s1⟩, hL1⟩ : ∃ x, Ck.lnum b ⟨0, 0⟩ = x := ⟨_, rfl⟩
  obtain ⟨⟨M1, s2⟩, hL2⟩ : ∃ x, Ck.lcnt b s1 = x := ⟨_, rfl⟩
  obtain ⟨⟨mk, s3⟩, hL3⟩ : ∃ x, Ck.lruns b M1 1 s2 = x := ⟨_, rfl⟩
  have hL : Ck.lread b = Ck.lvals b F mk s3 := by unfold Ck.lread; rw [hL1, hL2, hL3]
  have HL1 : Hid (Ck.lnum b ⟨0, 0⟩ = (F, s1)) := hL1
  have HL2 : Hid (Ck.lcnt b s1 = (M1, s2)) := hL2
  have HL3 : Hid (Ck.lruns b M1 1 s2 = (mk, s3)) := hL3
  have HLV : Hid (Ck.lread b = Ck.lvals b F mk s3) := hL
  have hM1 : M1 ≤ 65536 := by have := Ck.lcnt_le b s1; rw [hL2] at this; exact this
  have hmkl : mk.length ≤ M1 := by have := lruns_len (b := b) (n := M1) (wd := 1) (s := s2); rw [hL3] at this; exact this
  have hF64 : F < 18446744073709551616 := by have := Ck.lnum_lt b ⟨0, 0⟩; rw [hL1] at this; exact this
  clear hB hbl hx1 hC1 hR1 hW1 hL hL1 hL2 hL3
  go_enter Tryz.func44, Tryz.ntmps44
  go_wp2_with fail
  rw [← HW1.out]
  go_at_call 80
  refine (number_is (w.heap.size + 1) a cap b ⟨0, 0⟩ W1 HR1.out).mono ?_
  rw [HL1.out]
  rintro e1 w2 ⟨rfl, hR2, hg2⟩
  have HR2 : Hid (Rdr w2 (w.heap.size + 1) a cap b s1) := hR2
  have HG2 : Hid (W1.grownBy w2 (some (w.heap.size + 1))) := hg2
  clear hR2 hg2
  go_wp2_with fail
  go_at_call 82
  refine (count_is (w.heap.size + 1) a cap b s1 w2 HR2.out).mono ?_
  rw [HL2.out]
  rintro e2 w3 ⟨rfl, hR3, hg3⟩
  have HR3 : Hid (Rdr w3 (w.heap.size + 1) a cap b s2) := hR3
  have HG3 : Hid (W1.grownBy w3 (some (w.heap.size + 1))) := grown_tr HG2.out hg3
  clear hR3 hg3
  go_wp2_with fail
  go_at_call 81
  refine (rruns_is (w.heap.size + 1) a cap b s2 (M1 : Int) M1 1 w3 HR3.out rfl HBL.out).mono ?_
  rw [HL3.out]
  rintro e3 w4 ⟨u, rfl, ⟨am, cm, rfl, hm4, hmne⟩, hR4, hg4⟩
  have HR4 : Hid (Rdr w4 (w.heap.size + 1) a cap b s3) := hR4
  have HG4 : Hid (W1.grownBy w4 (some (w.heap.size + 1))) := grown_tr HG3.out hg4
  have HM4 : Hid (Rd n64 w4 am cm mk) := hm4
  have HMne : Hid (0 < mk.length → ∀ q off, am = some ⟨q, off, none⟩ → q ≠ w.heap.size + 1) := hmne
  have HC4 : Hid (CoAt w4 w.heap.size 0 n0 n0) := HC1.out.far HG4.out (by simp)
  obtain ⟨n, hn⟩ : ∃ n, Ck.nought mk = n := ⟨_, rfl⟩
  have HN : Hid (Ck.nought mk = n) := hn
  have hn7 : n ≤ 65536 := by have := Ck.nought_le mk; omega
  clear hR4 hg4 hm4 hmne hn
  go_wp2_with fail
  go_at_call 83
  refine (nought_is am _ cm mk w4 rfl HM4.out).mono ?_
  rw [HN.out]
  rintro e4 wq ⟨rfl, hwq⟩
  have hwq' := hwq.symm; clear hwq; subst hwq'
  by_cases f1 : F = 1
  · subst f1
    obtain ⟨⟨Wl, s4⟩, hW⟩ : ∃ x, Ck.lints b n [] s3 = x := ⟨_, rfl⟩
    have HL : Hid (Ck.lread b = ⟨1, mk, Wl, List.range n, s4⟩) := (by rw [HLV.out]; unfold Ck.lvals; rw [if_pos rfl, HN.out, hW] : Ck.lread b = ⟨1, mk, Wl, List.range n, s4⟩)
    have HWl : Hid (Ck.lints b n [] s3 = (Wl, s4)) := hW
    clear hW HLV
    go_wp2_with fail
    go_at_call 84
    refine (ints_is (w.heap.size + 1) a cap b s3 (n : Int) n w4 HR4.out rfl (by omega)).mono ?_
    rw [HWl.out]
    rintro e5 w5 ⟨u5, rfl, hu5, hR5, hg5⟩
    obtain ⟨aw, cw, rfl, hb5⟩ := hu5.rd cc_len
    obtain ⟨kw, hkw⟩ : ∃ kw, Wl.length = kw := ⟨_, rfl⟩
    have HKW : Hid (Wl.length = kw) := hkw
    rw [hkw] at hu5 ⊢
    obtain ⟨base, hbase⟩ : ∃ base, base = w4.heap.size := ⟨_, rfl⟩
    rw [← hbase] at hu5
    have hbc : w.heap.size < base := by have := HR4.out.1.lt; omega
    have hbw5 : base ≤ w5.heap.size := by have := hg5.size; omega
    have HW5 : Hid (OwnC w5 base (.slice aw kw cw) Wl) := hu5
    have HR5 : Hid (Rdr w5 (w.heap.size + 1) a cap b s4) := hR5
    have HM5 : Hid (Rd n64 w5 am cm mk) := rd_far HM4.out hg5 (fun h0 q off e e2 => HMne.out h0 q off e (by simpa using e2.symm))
    have HC5 : Hid (CoAt w5 w.heap.size 0 n0 n0) := HC4.out.far hg5 (by simp)
    have HG5 : Hid (Below w.heap.size w w5) := Below.grown HX1.out (grown_tr HG4.out hg5) HX1.out.size (fun k hk => by simp at hk; omega)
    clear hkw hb5 hu5 hR5 hg5 hbase HR4 HM4 HC4 HG4 HX1
    go_wp2_with fail
    go_at_call 85
    refine (upTo_is (n : Int) n w5 rfl (by omega)).mono ?_
    rintro e6 w6 ⟨v6, rfl, hv6, hx6⟩
    obtain ⟨ap, cp, rfl, hz6⟩ := hv6
    have HRx : Hid (Rdr w6 (w.heap.size + 1) a cap b s4) := HR5.out.below hx6
    have HC : Hid (CoAt w6 w.heap.size 0 n0 n0) := HC5.out.below hx6
    have HM : Hid (Rd n64 w6 am cm mk) := HM5.out.below hx6
    have HW : Hid (OwnC w6 base (.slice aw kw cw) Wl) := OwnW.later HW5.out hx6
    obtain ⟨kp, hkp⟩ : ∃ kp, (List.range n).length = kp := ⟨_, rfl⟩
    have HZ : Hid (IsZ (List.range n) (ap, kp, cp) w6) := ⟨hkp.symm, hz6⟩
    have HKP : Hid (kp = (List.range n).length) := hkp.symm
    rw [hkp]
    clear hkp
    have hbw : base ≤ w6.heap.size := Nat.le_trans hbw5 hx6.size
    have HG : Hid (Below w.heap.size w w6) := HG5.out.trans (hx6.mono (by omega))
    clear hz6 hx6 HR5 HC5 HM5 HW5 HG5 hbw5
    obtain ⟨at4, y4⟩ := s4
    obtain ⟨i0, i1, i2⟩ := HRx.out.1.all
    obtain ⟨j0, j1, j2⟩ := HC.out.all
    obtain ⟨f0, f1, f2⟩ := HC.out.fro
    simp only at i1 i2
    clear i0 i1
    by_cases hy : y4 = 0
    · subst hy
      have hrd := (Ck.lread_is b).2 (by rw [HL.out])
      rw [HL.out] at hrd
      obtain ⟨dd, _, _, _, hpl, hplt, _, _, hma, hww⟩ := hrd
      simp only at hpl hplt hma hww
      have HPL : Hid (Ck.nought mk ≤ (List.range n).length) := Nat.le_of_eq hpl.symm
      have hmal : mk.length ≤ 70000 := by omega
      clear hpl hplt hma
      go_wp2_with fail
      go_at_call 90
      refine (spread_is am mk.length cm mk ap kp cp (List.range n) (kw : Int) kw w6 rfl HKP.out HM.out HZ.out.2 rfl hmal HPL.out).mono ?_
      rintro e9 w5 ⟨v9, rfl, hv9, hfr9, hx9⟩
      obtain ⟨aq, cq, rfl, hq9⟩ := hv9
      obtain ⟨Qs, hQs⟩ : ∃ Qs, Ck.sprd mk (List.range n) kw = Qs := ⟨_, rfl⟩
      rw [hQs] at hq9 hfr9 ⊢
      obtain ⟨kq, hkq⟩ : ∃ kq, Qs.length = kq := ⟨_, rfl⟩
      have HKQ : Hid (Qs.length = kq) := hkq
      have HQs : Hid (Ck.sprd mk (List.range n) kw = Qs) := hQs
      rw [hkq] at hfr9 ⊢
      clear hQs hkq
      have hqb : ∀ q, (Value.slice aq kq cq).ownBlock = some q → (Value.slice aw kw cw).ownBlock ≠ some q := fun q e1 e2 => by have h1 := hfr9 q e1; have h2 := (HW.out.lt q e2).2; omega
      have HQF : Hid (∀ q, (Value.slice aq kq cq).ownBlock = some q → w6.heap.size ≤ q) := hfr9
      have hqc : ∀ q, (Value.slice aq kq cq).ownBlock = some q → q ≠ w.heap.size := fun q e1 => by have h1 := hfr9 q e1; omega
      have HQ9 : Hid (Rd zn w5 aq cq Qs) := hq9
      have HW5 : Hid (OwnC w5 base (.slice aw kw cw) Wl) := OwnW.later HW.out hx9
      have HC5 : Hid (CoAt w5 w.heap.size 0 n0 n0) := HC.out.below hx9
      have HR5 : Hid (Rdr w5 (w.heap.size + 1) a cap b ⟨at4, 0⟩) := HRx.out.below hx9
      have hs5 : base ≤ w5.heap.size := Nat.le_trans hbw hx9.size
      have HG5 : Hid (Below w.heap.size w w5) := HG.out.trans (hx9.mono (by omega))
      clear hq9 hx9 j0 j1 j2 f0 f1 f2 i2
      go_wp2_with (at_builtin; refine wpList_append_wide cc_len cc_one rfl (.tmp 50) (.tmp 52) 26 _ 48 rfl Tryz.underlying26 Tryz.info28 (by omega) rfl base _ Wl rfl (OwnW.alloc HW5.out _) (some ⟨w5.heap.size, 0, none⟩) 1 1 [Rw.none_] rfl rfl (RdW.laid cc_len w5 [Rw.none_] (by simp)) (by simp [maxLen]; omega) (by simp; omega) (by simp; omega) ?_; intro v8 w8 ho8 hg8 _; obtain ⟨a8, c8, k8, rfl, HO8, HC8, HB8, HQ8, j0, j1, j2, f0, f1, f2, HOB⟩ := read_last HW5.out HC5.out hbc HG5.out (by omega) HQ9.out HKQ.out hqb hqc ho8 hg8; clear ho8 hg8)
      have hC9 := HC8.out.store 1 (a8, k8, c8) (aq, kq, cq)
      refine bodyPost_ret (v := .tuple #[cov 1 (a8, k8, c8) (aq, kq, cq), .int .i64 0]) (res_col2 Tryz.results44 rfl rfl hC9) rfl ?_
      refine ⟨_, rfl, ⟨fun h => absurd (by rw [HL.out]) h, fun _ => ⟨(a8, k8, c8), (aq, kq, cq), by rw [HL.out], ?_, ?_, fun q hq => hq.elim (fun e => by have := HOB.out q e; omega) (fun e => by have := HQF.out q e; omega)⟩⟩, HB8.out 1 (a8, k8, c8) (aq, kq, cq)⟩
      · rw [HL.out]; exact HO8.out 1 (a8, k8, c8) (aq, kq, cq)
      · rw [HL.out]; simp only; rw [HKW.out, HQs.out]; exact ⟨HKQ.out.symm, HQ8.out 1 (a8, k8, c8) (aq, kq, cq)⟩
    · have t1 : ((y4 : Int) == 0) = false := beq_eq_false_iff_ne.2 (by omega)
      have t2 : ((y4 : Int) != 0) = true := by simp [bne, t1]
      go_wp2_with fail
      go_region
      have hC9 : CoAt (coset w6 w.heap.size 0 n0 n0).drew w.heap.size 0 n0 n0 := (HC.out.store 0 n0 n0).below (Ex.drew _)
      have hB9 : Below w.heap.size w (coset w6 w.heap.size 0 n0 n0).drew := Below.drew (Below.setCell (p := ⟨w.heap.size, 2, none⟩) (Below.setCell (p := ⟨w.heap.size, 1, none⟩) (Below.setCell (p := ⟨w.heap.size, 0, none⟩) HG.out (Nat.le_refl _) _) (Nat.le_refl _) _) (Nat.le_refl _) _)
      clear j0 j1 j2 f0 f1 f2 i2
      go_wp2_with fail
      refine bodyPost_ret (v := .tuple #[cov 0 n0 n0, .int .i64 (y4 : Int)]) (res_col2 Tryz.results44 rfl rfl hC9) rfl ?_
      exact ⟨_, rfl, ⟨fun _ => by rw [HL.out], fun h => absurd h (by rw [HL.out]; exact hy)⟩, hB9⟩
  by_cases f2 : F = 2
  · subst f2
    obtain ⟨⟨dd, sd⟩, hd⟩ : ∃ x, Ck.ldict b s3 = x := ⟨_, rfl⟩
    obtain ⟨⟨Pl, s4⟩, hp⟩ : ∃ x, Ck.lplaces b n dd.length sd = x := ⟨_, rfl⟩
    obtain ⟨Wl, hWl⟩ : ∃ Wl, dd.map Ck.tc = Wl := ⟨_, rfl⟩
    have HL : Hid (Ck.lread b = ⟨2, mk, Wl, Pl, s4⟩) := (by rw [HLV.out]; unfold Ck.lvals; rw [if_neg (by decide), if_pos rfl, HN.out, hd]; simp only; rw [hp, hWl] : Ck.lread b = ⟨2, mk, Wl, Pl, s4⟩)
    have HWd : Hid ((Ck.ldict b s3).1.map Ck.tc = Wl) := (by rw [hd]; exact hWl : (Ck.ldict b s3).1.map Ck.tc = Wl)
    have HSd : Hid ((Ck.ldict b s3).2 = sd) := (by rw [hd] : (Ck.ldict b s3).2 = sd)
    have hdl : dd.length = Wl.length := by rw [← hWl]; simp
    have hd16 : Wl.length ≤ 16 := by have := ldict_len b s3; rw [hd] at this; simp only at this; omega
    have HPl : Hid (Ck.lplaces b n Wl.length sd = (Pl, s4)) := (by rw [← hdl]; exact hp : Ck.lplaces b n Wl.length sd = (Pl, s4))
    clear hd hp hWl hdl HLV
    go_wp2_with fail
    go_at_call 86
    refine (rdict_is (w.heap.size + 1) a cap b s3 w4 HR4.out).mono ?_
    rw [HWd.out, HSd.out]
    rintro e5 w5 ⟨u5, rfl, hu5, hR5, hg5⟩
    obtain ⟨aw, cw, rfl, hb5⟩ := hu5.rd cc_len
    obtain ⟨kw, hkw⟩ : ∃ kw, Wl.length = kw := ⟨_, rfl⟩
    have HKW : Hid (Wl.length = kw) := hkw
    rw [hkw] at hu5 ⊢
    obtain ⟨base, hbase⟩ : ∃ base, base = w4.heap.size := ⟨_, rfl⟩
    rw [← hbase] at hu5
    have hbc : w.heap.size < base := by have := HR4.out.1.lt; omega
    have hgb : w.heap.size + 1 < base := by have := HR4.out.1.lt; omega
    have hbw5 : base ≤ w5.heap.size := by have := hg5.size; omega
    have HW5 : Hid (OwnC w5 base (.slice aw kw cw) Wl) := hu5
    have HR5 : Hid (Rdr w5 (w.heap.size + 1) a cap b sd) := hR5
    have HM5 : Hid (Rd n64 w5 am cm mk) := rd_far HM4.out hg5 (fun h0 q off e e2 => HMne.out h0 q off e (by simpa using e2.symm))
    have HC5 : Hid (CoAt w5 w.heap.size 0 n0 n0) := HC4.out.far hg5 (by simp)
    have HG5 : Hid (Below w.heap.size w w5) := Below.grown HX1.out (grown_tr HG4.out hg5) HX1.out.size (fun k hk => by simp at hk; omega)
    clear hkw hb5 hu5 hR5 hg5 hbase HR4 HM4 HC4 HG4 HX1
    have hwl7 : Wl.length ≤ 70000 := by omega
    rw [HKW.out] at hwl7
    go_wp2_with fail
    go_at_call 87
    refine (rplaces_is (w.heap.size + 1) a cap b sd (n : Int) (kw : Int) n kw w5 HR5.out rfl rfl (by omega) hwl7 HBL.out).mono ?_
    have hPl := HPl.out
    rw [HKW.out] at hPl
    rw [hPl]
    rintro e6 w6 ⟨v6, rfl, hv6, hR6, hg6⟩
    obtain ⟨ap, cp, rfl, hz6⟩ := hv6
    have HRx : Hid (Rdr w6 (w.heap.size + 1) a cap b s4) := hR6
    have HC : Hid (CoAt w6 w.heap.size 0 n0 n0) := HC5.out.far hg6 (by simp)
    have HM : Hid (Rd n64 w6 am cm mk) := rd_far HM5.out hg6 (fun h0 q off e e2 => HMne.out h0 q off e (by simpa using e2.symm))
    have HW : Hid (OwnC w6 base (.slice aw kw cw) Wl) := OwnW.grownO HW5.out hg6 hgb
    obtain ⟨kp, hkp⟩ : ∃ kp, Pl.length = kp := ⟨_, rfl⟩
    have HZ : Hid (IsZ Pl (ap, kp, cp) w6) := ⟨hkp.symm, hz6⟩
    have HKP : Hid (kp = Pl.length) := hkp.symm
    rw [hkp]
    clear hkp
    have hbw : base ≤ w6.heap.size := Nat.le_trans hbw5 hg6.size
    have HG : Hid (Below w.heap.size w w6) := Below.grown HG5.out hg6 HG5.out.size (fun k hk => by simp at hk; omega)
    clear hz6 hR6 hg6 HR5 HC5 HM5 HW5 HG5 hbw5 hPl HPl
    obtain ⟨at4, y4⟩ := s4
    obtain ⟨i0, i1, i2⟩ := HRx.out.1.all
    obtain ⟨j0, j1, j2⟩ := HC.out.all
    obtain ⟨f0, f1, f2⟩ := HC.out.fro
    simp only at i1 i2
    clear i0 i1
    by_cases hy : y4 = 0
    · subst hy
      have hrd := (Ck.lread_is b).2 (by rw [HL.out])
      rw [HL.out] at hrd
      obtain ⟨dd, _, _, _, hpl, hplt, _, _, hma, hww⟩ := hrd
      simp only at hpl hplt hma hww
      have HPL : Hid (Ck.nought mk ≤ Pl.length) := Nat.le_of_eq hpl.symm
      have hmal : mk.length ≤ 70000 := by omega
      clear hpl hplt hma
      go_wp2_with fail
      go_at_call 90
      refine (spread_is am mk.length cm mk ap kp cp Pl (kw : Int) kw w6 rfl HKP.out HM.out HZ.out.2 rfl hmal HPL.out).mono ?_
      rintro e9 w5 ⟨v9, rfl, hv9, hfr9, hx9⟩
      obtain ⟨aq, cq, rfl, hq9⟩ := hv9
      obtain ⟨Qs, hQs⟩ : ∃ Qs, Ck.sprd mk Pl kw = Qs := ⟨_, rfl⟩
      rw [hQs] at hq9 hfr9 ⊢
      obtain ⟨kq, hkq⟩ : ∃ kq, Qs.length = kq := ⟨_, rfl⟩
      have HKQ : Hid (Qs.length = kq) := hkq
      have HQs : Hid (Ck.sprd mk Pl kw = Qs) := hQs
      rw [hkq] at hfr9 ⊢
      clear hQs hkq
      have hqb : ∀ q, (Value.slice aq kq cq).ownBlock = some q → (Value.slice aw kw cw).ownBlock ≠ some q := fun q e1 e2 => by have h1 := hfr9 q e1; have h2 := (HW.out.lt q e2).2; omega
      have HQF : Hid (∀ q, (Value.slice aq kq cq).ownBlock = some q → w6.heap.size ≤ q) := hfr9
      have hqc : ∀ q, (Value.slice aq kq cq).ownBlock = some q → q ≠ w.heap.size := fun q e1 => by have h1 := hfr9 q e1; omega
      have HQ9 : Hid (Rd zn w5 aq cq Qs) := hq9
      have HW5 : Hid (OwnC w5 base (.slice aw kw cw) Wl) := OwnW.later HW.out hx9
      have HC5 : Hid (CoAt w5 w.heap.size 0 n0 n0) := HC.out.below hx9
      have HR5 : Hid (Rdr w5 (w.heap.size + 1) a cap b ⟨at4, 0⟩) := HRx.out.below hx9
      have hs5 : base ≤ w5.heap.size := Nat.le_trans hbw hx9.size
      have HG5 : Hid (Below w.heap.size w w5) := HG.out.trans (hx9.mono (by omega))
      clear hq9 hx9 j0 j1 j2 f0 f1 f2 i2
      go_wp2_with (at_builtin; refine wpList_append_wide cc_len cc_one rfl (.tmp 50) (.tmp 52) 26 _ 48 rfl Tryz.underlying26 Tryz.info28 (by omega) rfl base _ Wl rfl (OwnW.alloc HW5.out _) (some ⟨w5.heap.size, 0, none⟩) 1 1 [Rw.none_] rfl rfl (RdW.laid cc_len w5 [Rw.none_] (by simp)) (by simp [maxLen]; omega) (by simp; omega) (by simp; omega) ?_; intro v8 w8 ho8 hg8 _; obtain ⟨a8, c8, k8, rfl, HO8, HC8, HB8, HQ8, j0, j1, j2, f0, f1, f2, HOB⟩ := read_last HW5.out HC5.out hbc HG5.out (by omega) HQ9.out HKQ.out hqb hqc ho8 hg8; clear ho8 hg8)
      have hC9 := HC8.out.store 2 (a8, k8, c8) (aq, kq, cq)
      refine bodyPost_ret (v := .tuple #[cov 2 (a8, k8, c8) (aq, kq, cq), .int .i64 0]) (res_col2 Tryz.results44 rfl rfl hC9) rfl ?_
      refine ⟨_, rfl, ⟨fun h => absurd (by rw [HL.out]) h, fun _ => ⟨(a8, k8, c8), (aq, kq, cq), by rw [HL.out], ?_, ?_, fun q hq => hq.elim (fun e => by have := HOB.out q e; omega) (fun e => by have := HQF.out q e; omega)⟩⟩, HB8.out 2 (a8, k8, c8) (aq, kq, cq)⟩
      · rw [HL.out]; exact HO8.out 2 (a8, k8, c8) (aq, kq, cq)
      · rw [HL.out]; simp only; rw [HKW.out, HQs.out]; exact ⟨HKQ.out.symm, HQ8.out 2 (a8, k8, c8) (aq, kq, cq)⟩
    · have t1 : ((y4 : Int) == 0) = false := beq_eq_false_iff_ne.2 (by omega)
      have t2 : ((y4 : Int) != 0) = true := by simp [bne, t1]
      go_wp2_with fail
      go_region
      have hC9 : CoAt (coset w6 w.heap.size 0 n0 n0).drew w.heap.size 0 n0 n0 := (HC.out.store 0 n0 n0).below (Ex.drew _)
      have hB9 : Below w.heap.size w (coset w6 w.heap.size 0 n0 n0).drew := Below.drew (Below.setCell (p := ⟨w.heap.size, 2, none⟩) (Below.setCell (p := ⟨w.heap.size, 1, none⟩) (Below.setCell (p := ⟨w.heap.size, 0, none⟩) HG.out (Nat.le_refl _) _) (Nat.le_refl _) _) (Nat.le_refl _) _)
      clear j0 j1 j2 f0 f1 f2 i2
      go_wp2_with fail
      refine bodyPost_ret (v := .tuple #[cov 0 n0 n0, .int .i64 (y4 : Int)]) (res_col2 Tryz.results44 rfl rfl hC9) rfl ?_
      exact ⟨_, rfl, ⟨fun _ => by rw [HL.out], fun h => absurd h (by rw [HL.out]; exact hy)⟩, hB9⟩
  by_cases f3 : F = 3
  · subst f3
    obtain ⟨⟨Wl, s4⟩, hW⟩ : ∃ x, Ck.ltexts b n [] s3 = x := ⟨_, rfl⟩
    have HL : Hid (Ck.lread b = ⟨3, mk, Wl, List.range n, s4⟩) := (by rw [HLV.out]; unfold Ck.lvals; rw [if_neg (by decide), if_neg (by decide), if_pos rfl, HN.out, hW] : Ck.lread b = ⟨3, mk, Wl, List.range n, s4⟩)
    have HWl : Hid (Ck.ltexts b n [] s3 = (Wl, s4)) := hW
    clear hW HLV
    go_wp2_with fail
    go_at_call 88
    refine (rtexts_is (w.heap.size + 1) a cap b s3 (n : Int) n w4 HR4.out rfl (by omega)).mono ?_
    rw [HWl.out]
    rintro e5 w5 ⟨u5, rfl, hu5, hR5, hg5⟩
    obtain ⟨aw, cw, rfl, hb5⟩ := hu5.rd cc_len
    obtain ⟨kw, hkw⟩ : ∃ kw, Wl.length = kw := ⟨_, rfl⟩
    have HKW : Hid (Wl.length = kw) := hkw
    rw [hkw] at hu5 ⊢
    obtain ⟨base, hbase⟩ : ∃ base, base = w4.heap.size := ⟨_, rfl⟩
    rw [← hbase] at hu5
    have hbc : w.heap.size < base := by have := HR4.out.1.lt; omega
    have hbw5 : base ≤ w5.heap.size := by have := hg5.size; omega
    have HW5 : Hid (OwnC w5 base (.slice aw kw cw) Wl) := hu5
    have HR5 : Hid (Rdr w5 (w.heap.size + 1) a cap b s4) := hR5
    have HM5 : Hid (Rd n64 w5 am cm mk) := rd_far HM4.out hg5 (fun h0 q off e e2 => HMne.out h0 q off e (by simpa using e2.symm))
    have HC5 : Hid (CoAt w5 w.heap.size 0 n0 n0) := HC4.out.far hg5 (by simp)
    have HG5 : Hid (Below w.heap.size w w5) := Below.grown HX1.out (grown_tr HG4.out hg5) HX1.out.size (fun k hk => by simp at hk; omega)
    clear hkw hb5 hu5 hR5 hg5 hbase HR4 HM4 HC4 HG4 HX1
    go_wp2_with fail
    go_at_call 85
    refine (upTo_is (n : Int) n w5 rfl (by omega)).mono ?_
    rintro e6 w6 ⟨v6, rfl, hv6, hx6⟩
    obtain ⟨ap, cp, rfl, hz6⟩ := hv6
    have HRx : Hid (Rdr w6 (w.heap.size + 1) a cap b s4) := HR5.out.below hx6
    have HC : Hid (CoAt w6 w.heap.size 0 n0 n0) := HC5.out.below hx6
    have HM : Hid (Rd n64 w6 am cm mk) := HM5.out.below hx6
    have HW : Hid (OwnC w6 base (.slice aw kw cw) Wl) := OwnW.later HW5.out hx6
    obtain ⟨kp, hkp⟩ : ∃ kp, (List.range n).length = kp := ⟨_, rfl⟩
    have HZ : Hid (IsZ (List.range n) (ap, kp, cp) w6) := ⟨hkp.symm, hz6⟩
    have HKP : Hid (kp = (List.range n).length) := hkp.symm
    rw [hkp]
    clear hkp
    have hbw : base ≤ w6.heap.size := Nat.le_trans hbw5 hx6.size
    have HG : Hid (Below w.heap.size w w6) := HG5.out.trans (hx6.mono (by omega))
    clear hz6 hx6 HR5 HC5 HM5 HW5 HG5 hbw5
    obtain ⟨at4, y4⟩ := s4
    obtain ⟨i0, i1, i2⟩ := HRx.out.1.all
    obtain ⟨j0, j1, j2⟩ := HC.out.all
    obtain ⟨f0, f1, f2⟩ := HC.out.fro
    simp only at i1 i2
    clear i0 i1
    by_cases hy : y4 = 0
    · subst hy
      have hrd := (Ck.lread_is b).2 (by rw [HL.out])
      rw [HL.out] at hrd
      obtain ⟨dd, _, _, _, hpl, hplt, _, _, hma, hww⟩ := hrd
      simp only at hpl hplt hma hww
      have HPL : Hid (Ck.nought mk ≤ (List.range n).length) := Nat.le_of_eq hpl.symm
      have hmal : mk.length ≤ 70000 := by omega
      clear hpl hplt hma
      go_wp2_with fail
      go_at_call 90
      refine (spread_is am mk.length cm mk ap kp cp (List.range n) (kw : Int) kw w6 rfl HKP.out HM.out HZ.out.2 rfl hmal HPL.out).mono ?_
      rintro e9 w5 ⟨v9, rfl, hv9, hfr9, hx9⟩
      obtain ⟨aq, cq, rfl, hq9⟩ := hv9
      obtain ⟨Qs, hQs⟩ : ∃ Qs, Ck.sprd mk (List.range n) kw = Qs := ⟨_, rfl⟩
      rw [hQs] at hq9 hfr9 ⊢
      obtain ⟨kq, hkq⟩ : ∃ kq, Qs.length = kq := ⟨_, rfl⟩
      have HKQ : Hid (Qs.length = kq) := hkq
      have HQs : Hid (Ck.sprd mk (List.range n) kw = Qs) := hQs
      rw [hkq] at hfr9 ⊢
      clear hQs hkq
      have hqb : ∀ q, (Value.slice aq kq cq).ownBlock = some q → (Value.slice aw kw cw).ownBlock ≠ some q := fun q e1 e2 => by have h1 := hfr9 q e1; have h2 := (HW.out.lt q e2).2; omega
      have HQF : Hid (∀ q, (Value.slice aq kq cq).ownBlock = some q → w6.heap.size ≤ q) := hfr9
      have hqc : ∀ q, (Value.slice aq kq cq).ownBlock = some q → q ≠ w.heap.size := fun q e1 => by have h1 := hfr9 q e1; omega
      have HQ9 : Hid (Rd zn w5 aq cq Qs) := hq9
      have HW5 : Hid (OwnC w5 base (.slice aw kw cw) Wl) := OwnW.later HW.out hx9
      have HC5 : Hid (CoAt w5 w.heap.size 0 n0 n0) := HC.out.below hx9
      have HR5 : Hid (Rdr w5 (w.heap.size + 1) a cap b ⟨at4, 0⟩) := HRx.out.below hx9
      have hs5 : base ≤ w5.heap.size := Nat.le_trans hbw hx9.size
      have HG5 : Hid (Below w.heap.size w w5) := HG.out.trans (hx9.mono (by omega))
      clear hq9 hx9 j0 j1 j2 f0 f1 f2 i2
      go_wp2_with (at_builtin; refine wpList_append_wide cc_len cc_one rfl (.tmp 50) (.tmp 52) 26 _ 48 rfl Tryz.underlying26 Tryz.info28 (by omega) rfl base _ Wl rfl (OwnW.alloc HW5.out _) (some ⟨w5.heap.size, 0, none⟩) 1 1 [Rw.none_] rfl rfl (RdW.laid cc_len w5 [Rw.none_] (by simp)) (by simp [maxLen]; omega) (by simp; omega) (by simp; omega) ?_; intro v8 w8 ho8 hg8 _; obtain ⟨a8, c8, k8, rfl, HO8, HC8, HB8, HQ8, j0, j1, j2, f0, f1, f2, HOB⟩ := read_last HW5.out HC5.out hbc HG5.out (by omega) HQ9.out HKQ.out hqb hqc ho8 hg8; clear ho8 hg8)
      have hC9 := HC8.out.store 3 (a8, k8, c8) (aq, kq, cq)
      refine bodyPost_ret (v := .tuple #[cov 3 (a8, k8, c8) (aq, kq, cq), .int .i64 0]) (res_col2 Tryz.results44 rfl rfl hC9) rfl ?_
      refine ⟨_, rfl, ⟨fun h => absurd (by rw [HL.out]) h, fun _ => ⟨(a8, k8, c8), (aq, kq, cq), by rw [HL.out], ?_, ?_, fun q hq => hq.elim (fun e => by have := HOB.out q e; omega) (fun e => by have := HQF.out q e; omega)⟩⟩, HB8.out 3 (a8, k8, c8) (aq, kq, cq)⟩
      · rw [HL.out]; exact HO8.out 3 (a8, k8, c8) (aq, kq, cq)
      · rw [HL.out]; simp only; rw [HKW.out, HQs.out]; exact ⟨HKQ.out.symm, HQ8.out 3 (a8, k8, c8) (aq, kq, cq)⟩
    · have t1 : ((y4 : Int) == 0) = false := beq_eq_false_iff_ne.2 (by omega)
      have t2 : ((y4 : Int) != 0) = true := by simp [bne, t1]
      go_wp2_with fail
      go_region
      have hC9 : CoAt (coset w6 w.heap.size 0 n0 n0).drew w.heap.size 0 n0 n0 := (HC.out.store 0 n0 n0).below (Ex.drew _)
      have hB9 : Below w.heap.size w (coset w6 w.heap.size 0 n0 n0).drew := Below.drew (Below.setCell (p := ⟨w.heap.size, 2, none⟩) (Below.setCell (p := ⟨w.heap.size, 1, none⟩) (Below.setCell (p := ⟨w.heap.size, 0, none⟩) HG.out (Nat.le_refl _) _) (Nat.le_refl _) _) (Nat.le_refl _) _)
      clear j0 j1 j2 f0 f1 f2 i2
      go_wp2_with fail
      refine bodyPost_ret (v := .tuple #[cov 0 n0 n0, .int .i64 (y4 : Int)]) (res_col2 Tryz.results44 rfl rfl hC9) rfl ?_
      exact ⟨_, rfl, ⟨fun _ => by rw [HL.out], fun h => absurd h (by rw [HL.out]; exact hy)⟩, hB9⟩
  have t1 : ((F : Int) == 1) = false := beq_eq_false_iff_ne.2 (by omega)
  have t2 : ((F : Int) == 2) = false := beq_eq_false_iff_ne.2 (by omega)
  have t3 : ((F : Int) == 3) = false := beq_eq_false_iff_ne.2 (by omega)
  obtain ⟨s4, hs4⟩ : ∃ s4, Ck.refu 12 s3 = s4 := ⟨_, rfl⟩
  have HL : Hid (Ck.lread b = ⟨F, mk, [], [], s4⟩) := (by rw [HLV.out]; unfold Ck.lvals; rw [if_neg f1, if_neg f2, if_neg f3, hs4] : Ck.lread b = ⟨F, mk, [], [], s4⟩)
  have hsy : s4.y ≠ 0 := by
    rw [← hs4]
    unfold Ck.refu
    split
    · simp
    · assumption
  have HS4 : Hid (Ck.refu 12 s3 = s4) := hs4
  have hG4 : Below w.heap.size w w4 := Below.grown HX1.out HG4.out HX1.out.size (fun k hk => by simp at hk; omega)
  have HG4' : Hid (Below w.heap.size w w4) := hG4
  clear hs4 hG4 HLV
  go_wp2_with fail
  go_at_call 89
  refine (refuse_is (w.heap.size + 1) a cap b s3 _ 12 w4 HR4.out rfl).mono ?_
  rw [HS4.out]
  rintro e6 w6 ⟨rfl, hR6, hg6⟩
  have HRx : Hid (Rdr w6 (w.heap.size + 1) a cap b s4) := hR6
  have HC : Hid (CoAt w6 w.heap.size 0 n0 n0) := HC4.out.far hg6 (by simp)
  have HG : Hid (Below w.heap.size w w6) := Below.grown HG4'.out hg6 HG4'.out.size (fun k hk => by simp at hk; omega)
  clear hR6 hg6 HR4 HC4 HG4 HG4' HX1
  obtain ⟨at4, y4⟩ := s4
  obtain ⟨i0, i1, i2⟩ := HRx.out.1.all
  obtain ⟨j0, j1, j2⟩ := HC.out.all
  obtain ⟨f0, f1, f2⟩ := HC.out.fro
  simp only at i1 i2 hsy
  clear i0 i1
  have hy : ¬ y4 = 0 := hsy
  have t1 : ((y4 : Int) == 0) = false := beq_eq_false_iff_ne.2 (by omega)
  have t2 : ((y4 : Int) != 0) = true := by simp [bne, t1]
  go_wp2_with fail
  go_region
  have hC9 : CoAt (coset w6 w.heap.size 0 n0 n0).drew w.heap.size 0 n0 n0 := (HC.out.store 0 n0 n0).below (Ex.drew _)
  have hB9 : Below w.heap.size w (coset w6 w.heap.size 0 n0 n0).drew := Below.drew (Below.setCell (p := ⟨w.heap.size, 2, none⟩) (Below.setCell (p := ⟨w.heap.size, 1, none⟩) (Below.setCell (p := ⟨w.heap.size, 0, none⟩) HG.out (Nat.le_refl _) _) (Nat.le_refl _) _) (Nat.le_refl _) _)
  clear j0 j1 j2 f0 f1 f2 i2
  go_wp2_with fail
  refine bodyPost_ret (v := .tuple #[cov 0 n0 n0, .int .i64 (y4 : Int)]) (res_col2 Tryz.results44 rfl rfl hC9) rfl ?_
  exact ⟨_, rfl, ⟨fun _ => by rw [HL.out], fun h => absurd h (by rw [HL.out]; exact hy)⟩, hB9⟩
end Go.Proofs.YtnmonoafjijfhaaGreat
