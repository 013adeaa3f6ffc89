/-
  The landed column's all; kindOf; what a column that was read tells. A chunk in memory; the landed Open. sync.Once in one goroutine: the parts of its slow road, each a contract of its own (after the kit's page: the deferred calls, the lock); what the landed values hands to it.
-/
import Derived.Test.YtnmonoafjijfhaaGreatM45
import Derived.Defers
import Derived.Laws.Pointers
import Derived.Laws.LoneSync
import Derived.RegionTactic
import Derived.RegionCalls
import Derived.Laws.NewBlocks
namespace Go.Proofs.YtnmonoafjijfhaaGreat
open Go.RowKit
set_option linter.unusedVariables false
set_option linter.unusedSimpArgs false
/-- All words of the places. -/
def allC (ws : List Ce) (ps : List Nat) : List Ce := ps.map fun p => ws.getD p Rw.none_
theorem allC_len (ws : List Ce) (ps : List Nat) : (allC ws ps).length = ps.length := by simp [allC]
theorem allC_at {ws : List Ce} {ps : List Nat} {i : Nat} (h : i < ps.length) : (allC ws ps)[i]'(by rw [allC_len]; exact h) = cel ws ps i := by
  simp [allC, cel, List.getD_eq_getElem?_getD, List.getElem?_eq_getElem h]
theorem allC_take {ws : List Ce} {ps : List Nat} {i : Nat} (h : i < ps.length) : (allC ws ps).take (i + 1) = (allC ws ps).take i ++ [cel ws ps i] := by
  rw [take_snoc (by rw [allC_len]; exact h), allC_at h]
set_option maxHeartbeats 4000000 in
set_option maxRecDepth 100000 in
theorem all_is (b off : Nat) (x y : SV) (ws : List Ce) (ps : List Nat) (w : World) (h1 : w.cell? ⟨b, off + 1, none⟩ = some (sv x)) (h2 : w.cell? ⟨b, off + 2, none⟩ = some (sv y)) (hx : IsC ws x w) (hy : IsZ ps y w) (hp : ∀ p ∈ ps, p < ws.length) (hl : ps.length ≤ 70000) :
    Calls Tryz.prog 46 #[.pointer (some ⟨b, off, none⟩)] w fun e w' => ∃ g n, e = .returned (.slice (some ⟨g, 0, none⟩) n n) ∧ n = (allC ws ps).length ∧ CRow w' g (allC ws ps) ∧ w.heap.size ≤ g ∧ Ex w w' := by
  have H1 : Hid (w.cell? ⟨b, off + 1, none⟩ = some (sv x)) := h1
  have H2 : Hid (w.cell? ⟨b, off + 2, none⟩ = some (sv y)) := h2
  have HX0 : Hid (IsC ws x w) := hx
  have HY0 : Hid (IsZ ps y w) := hy
  have HP : Hid (∀ p ∈ ps, p < ws.length) := hp
  obtain ⟨ya, yn, yc⟩ := y
  have hyn : yn = ps.length := hy.1
  have HYN : Hid (yn = ps.length) := hyn
  simp only [sv] at h2
  have hn7 : yn ≤ 70000 := by omega
  clear hx hy hp hyn h1 hl
  go_enter Tryz.func46, Tryz.ntmps46
  go_wp2_with (at_make; refine wpList_make_cells rfl _ _ rfl _ _ yn rfl rfl rfl rfl (by omega) ?_; intro w3 hr3 hb3)
  obtain ⟨g, hg⟩ : ∃ g, g = w.heap.size := ⟨_, rfl⟩
  rw [← hg]
  have h0R : Hid (CRow w3 g ((allC ws ps).take 0 ++ List.replicate (yn - 0) Rw.none_)) := (by rw [hg]; simpa using hr3 : CRow w3 g ((allC ws ps).take 0 ++ List.replicate (yn - 0) Rw.none_))
  have h0B : Hid (Below g w w3) := (by rw [hg]; exact hb3 : Below g w w3)
  have HGb : Hid (g = w.heap.size) := hg
  clear hr3 hb3 hg h2
  go_loopw [4, 13] (fun iv2 iv wr => ∃ (i : Nat), i ≤ yn ∧ iv = .int .i64 (i : Int) ∧ Hid (CRow wr g ((allC ws ps).take i ++ List.replicate (yn - i) Rw.none_)) ∧ Hid (Below g w wr)) (fun iv2 iv wr => yn - (intOf iv).toNat)
  case atStart => exact ⟨0, by omega, rfl, h0R, h0B⟩
  case round =>
    obtain ⟨i, hi, rfl, HRo, HBl⟩ := hrel
    clear h0R h0B
    have hEx : Ex w wr := by have := HBl.out; rw [HGb.out] at this; exact this
    have HEx : Hid (Ex w wr) := hEx
    clear hEx
    by_cases hlt : i < yn
    · have ti : (i : Int) < (yn : Int) := by omega
      have hlt2 : i < ps.length := by rw [← HYN.out]; exact hlt
      obtain ⟨d, hd⟩ : ∃ d, cel ws ps i = d := ⟨_, rfl⟩
      have htk := allC_take (ws := ws) hlt2
      rw [hd] at htk
      have HTk : Hid ((allC ws ps).take (i + 1) = (allC ws ps).take i ++ [d]) := htk
      have HD : Hid (cel ws ps i = d) := hd
      clear hd htk
      go_wp2_with fail
      go_at_call 57
      refine (colcell_is b off x (ya, yn, yc) ws ps (i : Int) i wr (cell_ext H1.out HEx.out) (cell_ext H2.out HEx.out) (HX0.out.below HEx.out) (HY0.out.below HEx.out) rfl hlt2 HP.out).mono ?_
      rw [HD.out]
      rintro e5 w5 ⟨rfl, hx5⟩
      have hR5 : CRow w5 g ((allC ws ps).take i ++ List.replicate (yn - i) Rw.none_) := HRo.out.below hx5
      have hB5 : Below g w w5 := HBl.out.trans (hx5.mono (Nat.le_of_lt HRo.out.lt))
      have hal : ((allC ws ps).take i).length = i := by rw [List.length_take, allC_len]; omega
      have hll : i < ((allC ws ps).take i ++ List.replicate (yn - i) Rw.none_).length := by simp [hal]; omega
      obtain ⟨z0, z1, z2, z3⟩ := hR5.four hll
      have f0 := hR5.fro (i * 4)
      have f1 := hR5.fro (i * 4 + 1)
      have f2 := hR5.fro (i * 4 + 2)
      have f3 := hR5.fro (i * 4 + 3)
      obtain ⟨m1, hm1⟩ : ∃ m1, yn - i = m1 + 1 := ⟨yn - i - 1, by omega⟩
      have hR9 : CRow (cset4 w5 g (i * 4) d) g ((allC ws ps).take (i + 1) ++ List.replicate (yn - (i + 1)) Rw.none_) := by
        have h := hR5.set4 hll d
        rw [hm1, fillz_set _ m1 i _ d hal.symm, ← HTk.out] at h
        rw [show yn - (i + 1) = m1 by omega]
        exact h
      have HR9 : Hid (CRow (cset4 w5 g (i * 4) d) g ((allC ws ps).take (i + 1) ++ List.replicate (yn - (i + 1)) Rw.none_)) := hR9
      have HB9 : Hid (Below g w (cset4 w5 g (i * 4) d)) := Below.cset4 hB5 (Nat.le_refl _) _ _
      generalize (((allC ws ps).take i ++ List.replicate (yn - i) Rw.none_)[i]'hll) = zc at z0 z1 z2 z3
      clear hx5 hR5 hB5 hal hll hm1 hR9 HRo HBl
      unfold cv
      go_wp2_with fail
      go_roundw
      case rel => exact ⟨i + 1, by omega, by go_num, HR9, HB9⟩
      case measure => simp [intOf]; omega
    · have ti : ¬ (i : Int) < (yn : Int) := by omega
      have him : i = yn := by omega
      have hro := HRo.out
      rw [him, Nat.sub_self, List.replicate_zero, List.append_nil, List.take_of_length_le (by rw [allC_len]; exact Nat.le_of_eq HYN.out.symm)] at hro
      have HR6 : Hid (CRow wr g (allC ws ps)) := hro
      clear hro him HRo
      go_wp2_with fail
      go_ret
      exact ⟨g, yn, rfl, by rw [allC_len]; exact HYN.out, HR6.out, by rw [HGb.out]; exact Nat.le_refl _, HEx.out⟩
theorem kindOf_is (F : Int) (f : Nat) (w : World) (hF : F = f) :
    Calls Tryz.prog 45 #[.int .u64 F] w fun e w' => e = .returned (.int .i64 (Ck.kindOf f)) ∧ w' = w := by
  subst hF
  by_cases h : f = 1
  · subst h
    go_enter Tryz.func45, Tryz.ntmps45
    go_wp2_with fail
    go_ret
    exact ⟨rfl, rfl⟩
  · have t1 : ((f : Int) == 1) = false := beq_eq_false_iff_ne.2 (by omega)
    have HK : Hid (Ck.kindOf f = 2) := (by unfold Ck.kindOf; rw [if_neg h] : Ck.kindOf f = 2)
    rw [HK.out]
    go_enter Tryz.func45, Tryz.ntmps45
    go_wp2_with fail
    go_ret
    exact ⟨rfl, rfl⟩
/-- The cells of a column that was read, and of which kind. -/
def LC (b : List UInt8) : List Ce := allC ((Ck.lread b).words ++ [Rw.none_]) (Ck.sprd (Ck.lread b).ma (Ck.lread b).pl (Ck.lread b).words.length)
def LK (b : List UInt8) : Int := Ck.kindOf (Ck.lread b).f
theorem lints_64 {b : List UInt8} : ∀ (f : Nat) (o : List Ce) (s : CS), (∀ c ∈ o, In64 c.n) → ∀ c ∈ (Ck.lints b f o s).1, In64 c.n
  | 0, o, s, h => h
  | f + 1, o, s, h => by
    rw [Ck.lints]
    split
    · exact h
    · refine lints_64 f _ _ ?_
      intro c hc
      rcases List.mem_append.1 hc with hc | hc
      · exact h c hc
      · rw [List.mem_singleton] at hc
        subst hc
        exact Rw.zag_in (Ck.lnum_lt b s)
theorem ltexts_64 {b : List UInt8} : ∀ (f : Nat) (o : List Ce) (s : CS), (∀ c ∈ o, c.n = 0) → ∀ c ∈ (Ck.ltexts b f o s).1, c.n = 0
  | 0, o, s, h => h
  | f + 1, o, s, h => by
    rw [Ck.ltexts]
    split
    · exact h
    · refine ltexts_64 f _ _ ?_
      intro c hc
      rcases List.mem_append.1 hc with hc | hc
      · exact h c hc
      · rw [List.mem_singleton] at hc
        subst hc
        rfl
theorem words_64 (b : List UInt8) : ∀ c ∈ (Ck.lread b).words, In64 c.n := by
  have h0 : In64 0 := ⟨by decide, by decide⟩
  unfold Ck.lread
  generalize (Ck.lnum b ⟨0, 0⟩).1 = F
  generalize (Ck.lruns b (Ck.lcnt b (Ck.lnum b ⟨0, 0⟩).2).1 1 (Ck.lcnt b (Ck.lnum b ⟨0, 0⟩).2).2).1 = mk
  generalize (Ck.lruns b (Ck.lcnt b (Ck.lnum b ⟨0, 0⟩).2).1 1 (Ck.lcnt b (Ck.lnum b ⟨0, 0⟩).2).2).2 = s
  unfold Ck.lvals
  split
  · exact lints_64 _ _ _ (by simp)
  split
  · intro c hc
    simp only [List.mem_map] at hc
    obtain ⟨t, _, rfl⟩ := hc
    exact h0
  split
  · intro c hc
    rw [ltexts_64 _ _ _ (by simp) c hc]
    exact h0
  · simp
theorem LC_64 (b : List UInt8) : ∀ c ∈ LC b, In64 c.n := by
  intro c hc
  unfold LC allC at hc
  simp only [List.mem_map] at hc
  obtain ⟨p, _, rfl⟩ := hc
  rw [List.getD_eq_getElem?_getD]
  cases h : ((Ck.lread b).words ++ [Rw.none_])[p]? with
  | none => exact ⟨by decide, by decide⟩
  | some d =>
    rw [Option.getD_some]
    rcases List.mem_append.1 (List.mem_of_getElem? h) with hd | hd
    · exact words_64 b d hd
    · rw [List.mem_singleton] at hd
      subst hd
      exact ⟨by decide, by decide⟩
/-- What Open tells, by what the landed reading comes to. -/
theorem opn_is (b : List UInt8) : ((Ck.lread b).s.y ≠ 0 → Ck.opn b = none) ∧ ((Ck.lread b).s.y = 0 → ∃ d, ((Ck.lread b).f = 2 → (Ck.lread b).words = d.map Ck.tc) ∧ ((Ck.lread b).f ≠ 2 → d = []) ∧ Ck.opn b = (if Ck.encE (LK b) (LC b) = (b, 0) then some (LK b, LC b, d) else none)) := by
  obtain ⟨h1, h2⟩ := Ck.lread_is b
  refine ⟨fun h => by unfold Ck.opn; rw [h1 h], fun h => ?_⟩
  obtain ⟨d, e1, e2, e3, e4, e5, _⟩ := h2 h
  refine ⟨d, e2, e3, ?_⟩
  unfold Ck.opn
  rw [e1]
  simp only
  have := Ck.spr_sprd (Ck.lread b).words (Ck.lread b).ma (Ck.lread b).pl e5 (Nat.le_of_eq e4.symm)
  rw [← this]
  rfl
end Go.Proofs.YtnmonoafjijfhaaGreat
namespace Go.Proofs.YtnmonoafjijfhaaGreat
open Go.RowKit
set_option linter.unusedVariables false
set_option linter.unusedSimpArgs false
abbrev chb (K R : Int) (dn : Nat) (bs : SV) (f : Nat) (x y : SV) : Obj := .cells #[.int .i64 K, .int .i64 R, .int .u32 (dn : Int), .int .i32 0, .int .u32 0, sv bs, .int .u64 (f : Int), sv x, sv y] 105
/-- A chunk's nine places. -/
def ChAt (w : World) (g : Nat) (K R : Int) (dn : Nat) (bs : SV) (f : Nat) (x y : SV) : Prop := w.heap[g]? = some (chb K R dn bs f x y)
section
variable {w w' : World} {g : Nat} {K R : Int} {dn : Nat} {bs : SV} {f : Nat} {x y : SV}
theorem ChAt.lt (h : ChAt w g K R dn bs f x y) : g < w.heap.size := (Array.getElem?_eq_some_iff.1 h).1
theorem ChAt.cell (h : ChAt w g K R dn bs f x y) (k : Nat) : w.cell? ⟨g, k, none⟩ = #[Value.int .i64 K, .int .i64 R, .int .u32 (dn : Int), .int .i32 0, .int .u32 0, sv bs, .int .u64 (f : Int), sv x, sv y][k]? := cell_of_row w g _ _ 105 (0, 0) h
theorem ChAt.fro (h : ChAt w g K R dn bs f x y) (k : Nat) : w.frozen? ⟨g, k, none⟩ = false := frozen_of_row _ _ _ _ _ h
theorem ChAt.below (h : ChAt w g K R dn bs f x y) (hx : Ex w w') : ChAt w' g K R dn bs f x y := by
  unfold ChAt; rw [hx.block g h.lt]; exact h
theorem ChAt.far {row : Option Nat} (h : ChAt w g K R dn bs f x y) (hg : w.grownBy w' row) (hne : row ≠ some g) : ChAt w' g K R dn bs f x y := by
  unfold ChAt; rw [hg.block g h.lt (fun e => hne e.symm)]; exact h
end
/-- A slice of these bytes. -/
def IsB (l : List UInt8) (x : SV) (w : World) : Prop := x.2.1 = l.length ∧ Byt w x.1 x.2.2 l
theorem IsB.below {l : List UInt8} {x : SV} {w w' : World} (h : IsB l x w) (hx : Ex w w') : IsB l x w' := ⟨h.1, h.2.below hx⟩
theorem own_of {a : Option Addr} {n c q off : Nat} (e : a = some ⟨q, off, none⟩) : (sv (a, n, c)).ownBlock = some q := by rw [e]; rfl
theorem own_eq {a : Option Addr} {n c q b off : Nat} (h : (sv (a, n, c)).ownBlock = some q) (e : a = some ⟨b, off, none⟩) : b = q := by
  rw [e] at h; simpa [Value.ownBlock] using h
theorem IsB.far {l : List UInt8} {x : SV} {w w' : World} {row : Option Nat} (h : IsB l x w) (hg : w.grownBy w' row) (hne : 0 < x.2.1 → ∀ q, (sv x).ownBlock = some q → row ≠ some q) : IsB l x w' :=
  ⟨h.1, byt_far h.2 hg (fun h0 q off e => hne (by rw [h.1]; exact h0) q (own_of e))⟩
theorem IsC.far {l : List Ce} {x : SV} {w w' : World} {row : Option Nat} (h : IsC l x w) (hg : w.grownBy w' row) (hne : 0 < x.2.1 → ∀ q, (sv x).ownBlock = some q → row ≠ some q) : IsC l x w' :=
  ⟨h.1, RdW.far h.2 hg (fun h0 q off e => hne (by rw [h.1]; exact h0) q (own_of e))⟩
theorem IsZ.far {l : List Nat} {x : SV} {w w' : World} {row : Option Nat} (h : IsZ l x w) (hg : w.grownBy w' row) (hne : 0 < x.2.1 → ∀ q, (sv x).ownBlock = some q → row ≠ some q) : IsZ l x w' :=
  ⟨h.1, rd_far h.2 hg (fun h0 q off e => hne (by rw [h.1]; exact h0) q (own_of e))⟩
theorem IsB.lt {l : List UInt8} {x : SV} {w : World} (h : IsB l x w) (h0 : 0 < x.2.1) : ∀ q, (sv x).ownBlock = some q → q < w.heap.size := by
  intro q hq
  obtain ⟨a, n, c⟩ := x
  obtain ⟨b, off, e, hc⟩ := h.2.2.2.2 0 (by rw [← h.1]; exact h0)
  rw [← own_eq hq e]
  exact World.block_lt_of_cell? w _ hc
theorem IsZ.lt {l : List Nat} {x : SV} {w : World} (h : IsZ l x w) (h0 : 0 < x.2.1) : ∀ q, (sv x).ownBlock = some q → q < w.heap.size := by
  intro q hq
  obtain ⟨a, n, c⟩ := x
  have hl : 0 < l.length := by rw [← h.1]; exact h0
  obtain ⟨b, off, e, hc⟩ := h.2.2.2.2 0 l[0] (List.getElem?_eq_getElem hl)
  rw [← own_eq hq e]
  exact World.block_lt_of_cell? w _ hc
theorem IsC.lt {l : List Ce} {x : SV} {w : World} (h : IsC l x w) (h0 : 0 < x.2.1) : ∀ q, (sv x).ownBlock = some q → q < w.heap.size := by
  intro q hq
  obtain ⟨a, n, c⟩ := x
  have hl : 0 < l.length := by rw [← h.1]; exact h0
  obtain ⟨b, off, e, hc, _⟩ := RdC.four h.2 hl
  rw [← own_eq hq e]
  exact World.block_lt_of_cell? w _ hc
/-- A slice's block is none of g, and is one of fp. -/
def InF (g : Nat) (fp : Nat → Prop) (x : SV) : Prop := 0 < x.2.1 → ∀ q, (sv x).ownBlock = some q → q ≠ g ∧ fp q
/-- The words and the places of bytes that were read. -/
def LW (b : List UInt8) : List Ce := (Ck.lread b).words ++ [Rw.none_]
def LP (b : List UInt8) : List Nat := Ck.sprd (Ck.lread b).ma (Ck.lread b).pl (Ck.lread b).words.length
/-- What is known of bytes that make a chunk. -/
def Ok (b : List UInt8) : Prop := (Ck.lread b).s.y = 0 ∧ b.length ≤ 140737488355328 ∧ (LP b).length ≤ 65536 ∧ (∀ p ∈ LP b, p < (LW b).length) ∧ (LW b).length ≤ 70000
/-- A chunk whose values were not asked for; that was read; either. -/
def ChU (w : World) (g : Nat) (b : List UInt8) (fp : Nat → Prop) : Prop := ∃ bs, ChAt w g (LK b) ((LC b).length : Nat) 0 bs 0 n0 n0 ∧ IsB b bs w ∧ InF g fp bs
def ChD (w : World) (g : Nat) (b : List UInt8) (fp : Nat → Prop) : Prop := ∃ x y, ChAt w g (LK b) ((LC b).length : Nat) 1 n0 (Ck.lread b).f x y ∧ IsC (LW b) x w ∧ IsZ (LP b) y w ∧ InF g fp x ∧ InF g fp y
def Chk (w : World) (g : Nat) (b : List UInt8) (fp : Nat → Prop) : Prop := ChU w g b fp ∨ ChD w g b fp
section
variable {w w' : World} {g : Nat} {b : List UInt8} {fp : Nat → Prop}
theorem ChD.below (h : ChD w g b fp) (hx : Ex w w') : ChD w' g b fp := by
  obtain ⟨x, y, h1, h2, h3, h4⟩ := h
  exact ⟨x, y, h1.below hx, h2.below hx, h3.below hx, h4⟩
theorem ChU.below (h : ChU w g b fp) (hx : Ex w w') : ChU w' g b fp := by
  obtain ⟨x, h1, h2, h4⟩ := h
  exact ⟨x, h1.below hx, h2.below hx, h4⟩
theorem Chk.below (h : Chk w g b fp) (hx : Ex w w') : Chk w' g b fp := h.elim (fun h => .inl (h.below hx)) (fun h => .inr (h.below hx))
theorem ChD.far {r : Nat} (h : ChD w g b fp) (hg : w.grownBy w' (some r)) (hr : r ≠ g) (hf : ¬ fp r) : ChD w' g b fp := by
  obtain ⟨x, y, h1, h2, h3, h4, h5⟩ := h
  exact ⟨x, y, h1.far hg (by simpa using hr), h2.far hg (fun h0 q hq e => hf (by simp at e; rw [e]; exact (h4 h0 q hq).2)), h3.far hg (fun h0 q hq e => hf (by simp at e; rw [e]; exact (h5 h0 q hq).2)), h4, h5⟩
theorem ChU.far {r : Nat} (h : ChU w g b fp) (hg : w.grownBy w' (some r)) (hr : r ≠ g) (hf : ¬ fp r) : ChU w' g b fp := by
  obtain ⟨x, h1, h2, h4⟩ := h
  exact ⟨x, h1.far hg (by simpa using hr), h2.far hg (fun h0 q hq e => hf (by simp at e; rw [e]; exact (h4 h0 q hq).2)), h4⟩
theorem Chk.far {r : Nat} (h : Chk w g b fp) (hg : w.grownBy w' (some r)) (hr : r ≠ g) (hf : ¬ fp r) : Chk w' g b fp := h.elim (fun h => .inl (h.far hg hr hf)) (fun h => .inr (h.far hg hr hf))
theorem Chk.tight (h : Chk w g b fp) : Chk w g b (fun q => fp q ∧ q < w.heap.size) := by
  rcases h with ⟨x, h1, h2, h4⟩ | ⟨x, y, h1, h2, h3, h4, h5⟩
  · exact .inl ⟨x, h1, h2, fun h0 q hq => ⟨(h4 h0 q hq).1, (h4 h0 q hq).2, h2.lt h0 q hq⟩⟩
  · exact .inr ⟨x, y, h1, h2, h3, fun h0 q hq => ⟨(h4 h0 q hq).1, (h4 h0 q hq).2, h2.lt h0 q hq⟩, fun h0 q hq => ⟨(h5 h0 q hq).1, (h5 h0 q hq).2, h3.lt h0 q hq⟩⟩
theorem ChD.tight (h : ChD w g b fp) : ChD w g b (fun q => fp q ∧ q < w.heap.size) := by
  obtain ⟨x, y, h1, h2, h3, h4, h5⟩ := h
  exact ⟨x, y, h1, h2, h3, fun h0 q hq => ⟨(h4 h0 q hq).1, (h4 h0 q hq).2, h2.lt h0 q hq⟩, fun h0 q hq => ⟨(h5 h0 q hq).1, (h5 h0 q hq).2, h3.lt h0 q hq⟩⟩
theorem Chk.lt (h : Chk w g b fp) : g < w.heap.size := h.elim (fun ⟨_, h, _⟩ => h.lt) (fun ⟨_, _, h, _⟩ => h.lt)
theorem Chk.two (h : Chk w g b fp) : w.cell? ⟨g, 0, none⟩ = some (.int .i64 (LK b)) ∧ w.cell? ⟨g, 1, none⟩ = some (.int .i64 ((LC b).length : Nat)) := by
  rcases h with ⟨bs, h, _⟩ | ⟨x, y, h, _⟩
  · exact ⟨h.cell 0, h.cell 1⟩
  · exact ⟨h.cell 0, h.cell 1⟩
end
theorem LC_len (b : List UInt8) : (LC b).length = (LP b).length := by unfold LC LP; rw [allC_len]
theorem LC_def (b : List UInt8) : LC b = allC (LW b) (LP b) := rfl
theorem ok_of {b : List UInt8} (h : (Ck.lread b).s.y = 0) (hb : b.length ≤ 140737488355328) : Ok b := by
  obtain ⟨d, _, _, _, _, e5, _, _, e8, e9⟩ := (Ck.lread_is b).2 h
  refine ⟨h, hb, ?_, ?_, ?_⟩
  · unfold LP; rw [Ck.sprd_len]; exact e8
  · have hl : (LW b).length = (Ck.lread b).words.length + 1 := by simp [LW]
    rw [hl]
    exact Ck.sprd_lt (Nat.lt_succ_self _) _ _ (fun p hp => by have := e5 p hp; omega)
  · unfold LW; simp; omega
/-- What Open answers. -/
def OpenIs (b : List UInt8) (v : Value) (w0 w : World) : Prop :=
  (Ck.encE (LK b) (LC b) = (b, 0) ∧ (Ck.lread b).s.y = 0 → ∃ g fp, v = .tuple #[.pointer (some ⟨g, 0, none⟩), .int .i64 0] ∧ Ok b ∧ ChU w g b fp ∧ w0.heap.size ≤ g ∧ (∀ q, fp q → w0.heap.size ≤ q)) ∧
  (¬ (Ck.encE (LK b) (LC b) = (b, 0) ∧ (Ck.lread b).s.y = 0) → v = .tuple #[.pointer none, .int .i64 12])
set_option maxHeartbeats 4000000 in
set_option maxRecDepth 100000 in
theorem open_is (a : Option Addr) (n cap : Nat) (b : List UInt8) (w : World) (hn : n = b.length) (hB : Byt w a cap b) (hbl : b.length ≤ 140737488355328) :
    Calls Tryz.prog 11 #[.slice a n cap] w fun e w' => ∃ v, e = .returned v ∧ OpenIs b v w w' ∧ Ex w w' := by
  have HN : Hid (n = b.length) := hn
  have HB : Hid (Byt w a cap b) := hB
  have HBL : Hid (b.length ≤ 140737488355328) := hbl
  clear hn hB hbl
  go_enter Tryz.func11, Tryz.ntmps11
  go_wp2_with fail
  go_at_call 44
  refine (read_is a n cap b w HN.out HB.out HBL.out).mono ?_
  rintro e1 w1 ⟨v1, rfl, hR, hx1⟩
  have HX1 : Hid (Ex w w1) := hx1
  clear hx1
  obtain ⟨hR1, hR2⟩ := hR
  by_cases hy : (Ck.lread b).s.y = 0
  · obtain ⟨x, y, rfl, hxc, hyz, _⟩ := hR2 hy
    have hok := ok_of hy HBL.out
    have HOk : Hid (Ok b) := hok
    obtain ⟨F, hF⟩ : ∃ F, (Ck.lread b).f = F := ⟨_, rfl⟩
    have HF : Hid ((Ck.lread b).f = F) := hF
    have HY : Hid ((Ck.lread b).s.y = 0) := hy
    have HIC : Hid (IsC (LW b) x w1) := hxc
    have HIZ : Hid (IsZ (LP b) y w1) := hyz
    rw [hF]
    obtain ⟨w2, hw2⟩ : ∃ w2, w1.alloc (cob F x y) = w2 := ⟨_, rfl⟩
    have hx2 : Ex w1 w2 := by rw [← hw2]; exact (Below.refl _ _).alloc (Nat.le_refl _) _
    have hC2 : CoAt w2 w1.heap.size F x y := by rw [← hw2]; exact CoAt.new w1 F x y
    have HX2 : Hid (Ex w w2) := HX1.out.trans hx2
    have HIC2 : Hid (IsC (LW b) x w2) := HIC.out.below hx2
    have HIZ2 : Hid (IsZ (LP b) y w2) := HIZ.out.below hx2
    have HC2 : Hid (CoAt w2 w1.heap.size F x y) := hC2
    obtain ⟨c0, c1, c2⟩ := hC2.all
    have hkk : ∀ (W : World), Calls Tryz.prog 45 #[.int .u64 (F : Int)] W fun e w' => e = .returned (.int .i64 (LK b)) ∧ w' = W := fun W => by
      have := kindOf_is (F : Int) F W rfl
      rw [← HF.out] at this ⊢
      exact this
    have HKK : Hid (∀ (W : World), Calls Tryz.prog 45 #[.int .u64 (F : Int)] W fun e w' => e = .returned (.int .i64 (LK b)) ∧ w' = W) := hkk
    obtain ⟨K, hK⟩ : ∃ K, LK b = K := ⟨_, rfl⟩
    have HK : Hid (LK b = K) := hK
    rw [hK] at HKK
    have hyl : y.2.1 = (LP b).length := hyz.1
    have HYL : Hid (y.2.1 = (LC b).length) := hyl.trans (LC_len b).symm
    clear hR1 hR2 hxc hyz hok hF hy hx2 hC2 hkk hK hyl HIC HIZ
    obtain ⟨ya, yn, yc⟩ := y
    simp only [sv] at c2
    simp only at HYL
    unfold cov
    simp only [sv]
    obtain ⟨xa, xn, xc⟩ := x
    simp only [sv] at c1
    go_wp2_with fail
    go_quiet ((go_at_call 45; refine Calls.quiet_of_same (HKK.out _)))
    go_wp2_with fail
    obtain ⟨w3, hw3⟩ : ∃ w3, w2.drewN nq = w3 := ⟨_, rfl⟩
    rw [hw3]
    have hx3 : Ex w2 w3 := by rw [← hw3]; exact Ex.drewN w2 nq
    have HX3 : Hid (Ex w w3) := HX2.out.trans hx3
    have C1 : Hid (w3.cell? ⟨w1.heap.size, 0 + 1, none⟩ = some (.slice xa xn xc)) := cell_ext c1 hx3
    have C2 : Hid (w3.cell? ⟨w1.heap.size, 0 + 2, none⟩ = some (.slice ya yn yc)) := cell_ext c2 hx3
    have HIC3 : Hid (IsC (LW b) (xa, xn, xc) w3) := HIC2.out.below hx3
    have HIZ3 : Hid (IsZ (LP b) (ya, yn, yc) w3) := HIZ2.out.below hx3
    have hlp : (LP b).length ≤ 70000 := by have := HOk.out.2.2.1; omega
    clear hw3 hx3 c0 c1 c2 hw2 HC2 HIC2 HIZ2
    go_at_call 46
    refine (all_is w1.heap.size 0 (xa, xn, xc) (ya, yn, yc) (LW b) (LP b) w3 C1.out C2.out HIC3.out HIZ3.out HOk.out.2.2.2.1 hlp).mono ?_
    rintro e4 w4 ⟨g4, n4, rfl, hn4, hr4, hg4, hx4⟩
    rw [← LC_def] at hn4 hr4
    have HN4 : Hid (n4 = (LC b).length) := hn4
    have hll : (LC b).length ≤ 70000 := by rw [LC_len]; exact hlp
    have HC4 : Hid (RdC w4 (some ⟨g4, 0, none⟩) n4 (LC b)) := hr4.rd hn4 (by omega)
    have HX4 : Hid (Ex w w4) := HX3.out.trans hx4
    obtain ⟨⟨r, e0⟩, hE⟩ : ∃ z, Ck.encE (LK b) (LC b) = z := ⟨_, rfl⟩
    have HE : Hid (Ck.encE K (LC b) = (r, e0)) := (by rw [← HK.out]; exact hE : Ck.encE K (LC b) = (r, e0))
    have HE2 : Hid (Ck.encE (LK b) (LC b) = (r, e0)) := hE
    clear hn4 hr4 hg4 hx4 hE C1 C2 HIC3 HIZ3
    go_wp2_with fail
    go_at_call 9
    refine (encode_is K (some ⟨g4, 0, none⟩) n4 n4 (LC b) w4 HN4.out HC4.out (LC_64 b) r e0 HE.out).mono ?_
    rintro e5 w5 ⟨v5, rfl, hv5, hx5⟩
    obtain ⟨a5, c5, rfl, hb5⟩ := hv5.byt
    obtain ⟨n5, hn5⟩ : ∃ n5, r.length = n5 := ⟨_, rfl⟩
    rw [hn5] at hv5 ⊢
    have HN5 : Hid (n5 = r.length) := hn5.symm
    have HB5 : Hid (Byt w5 a5 c5 r) := hb5
    have HO5 : Hid (∀ q, (Value.slice a5 n5 c5).ownBlock = some q → w4.heap.size ≤ q ∧ q < w5.heap.size) := fun q hq => World.ownsRow.lt hv5 q hq
    have HX5 : Hid (Ex w w5) := HX4.out.trans hx5
    have HB05 : Hid (Byt w5 a cap b) := HB.out.below HX5.out
    have hs45 : w.heap.size ≤ w4.heap.size := HX4.out.size
    have hs5 : w.heap.size ≤ w5.heap.size := HX5.out.size
    clear hn5 hv5 hb5 hx5
    by_cases he : e0 = 0
    · subst he
      obtain ⟨rb, hrb⟩ : ∃ rb, decide (r = b) = rb := ⟨_, rfl⟩
      have HRB : Hid (decide (r = b) = rb) := hrb
      clear hrb
      go_wp2_with fail
      go_at_call 47
      refine (equal_is a5 a n5 n c5 cap r b w5 HB5.out HB05.out HN5.out HN.out rb HRB.out).mono ?_
      rintro e6 wq ⟨rfl, hwq⟩
      have hwq' := hwq.symm; clear hwq; subst hwq'
      cases rb with
      | true =>
        have hre : r = b := by simpa using HRB.out
        go_wp2_with fail
        go_ret2
        refine ⟨_, rfl, ⟨fun _ => ?_, fun h => absurd ⟨by rw [HE2.out, hre], HY.out⟩ h⟩, HX5.out.trans ((Below.refl _ _).alloc (Nat.le_refl _) _)⟩
        refine ⟨w5.heap.size, fun q => w.heap.size ≤ q, rfl, HOk.out, ⟨(a5, n5, c5), ?_, ⟨?_, ?_⟩, fun _ q hq => ⟨?_, ?_⟩⟩, hs5, fun q hq => hq⟩
        · unfold ChAt
          rw [HK.out, ← HYL.out]
          exact heap_alloc_new w5 _
        · simp only; rw [HN5.out, hre]
        · have := HB5.out.below ((Below.refl _ _).alloc (Nat.le_refl _) (chb K (yn : Nat) 0 (a5, n5, c5) 0 n0 n0))
          rw [hre] at this
          exact this
        · have := (HO5.out q hq).2; omega
        · have := (HO5.out q hq).1; omega
      | false =>
        have hre : ¬ r = b := by simpa using HRB.out
        go_wp2_with fail
        go_ret2
        exact ⟨_, rfl, ⟨fun h => absurd (by have := h.1; rw [HE2.out] at this; simpa using this) hre, fun _ => rfl⟩, HX5.out⟩
    · have t1 : ((e0 : Int) == 0) = false := beq_eq_false_iff_ne.2 (by omega)
      have t2 : ((e0 : Int) != 0) = true := by simp [bne, t1]
      go_wp2_with fail
      go_ret2
      exact ⟨_, rfl, ⟨fun h => absurd (by have := h.1; rw [HE2.out] at this; simp only [Prod.mk.injEq] at this; exact this.2) he, fun _ => rfl⟩, HX5.out⟩
  · have hv := hR1 hy
    subst hv
    have HY : Hid (¬ (Ck.lread b).s.y = 0) := hy
    obtain ⟨y1, hy1⟩ : ∃ y1, (Ck.lread b).s.y = y1 := ⟨_, rfl⟩
    rw [hy1] at hy ⊢
    have t1 : ((y1 : Int) == 0) = false := beq_eq_false_iff_ne.2 (by omega)
    have t2 : ((y1 : Int) != 0) = true := by simp [bne, t1]
    clear hR1 hR2 hy1 hy
    unfold cov
    simp only [sv]
    go_wp2_with fail
    go_ret2
    exact ⟨_, rfl, ⟨fun h => absurd h.2 HY.out, fun _ => rfl⟩, HX1.out.trans ((Below.refl _ _).alloc (Nat.le_refl _) _)⟩
end Go.Proofs.YtnmonoafjijfhaaGreat
namespace Go.Proofs.YtnmonoafjijfhaaGreat
open Go.RowKit
set_option linter.unusedVariables false
set_option linter.unusedSimpArgs false
theorem o_disable (w : World) : (callFunc 140 #[]).run Tryz.prog w = .ok (.value (.tuple #[])) w := run_call_mark0 Tryz.func140 (by kernel_rfl) (by kernel_rfl) (by kernel_rfl) .disable (by kernel_rfl) w
theorem o_enable (w : World) : (callFunc 142 #[]).run Tryz.prog w = .ok (.value (.tuple #[])) w := run_call_mark0 Tryz.func142 (by kernel_rfl) (by kernel_rfl) (by kernel_rfl) .enable (by kernel_rfl) w
theorem o_acquire (a : Addr) (w : World) : (callFunc 143 #[.pointer (some a)]).run Tryz.prog w = .ok (.value (.tuple #[])) w := run_call_marked Tryz.func143 (by kernel_rfl) (by kernel_rfl) (by kernel_rfl) .acquire (by kernel_rfl) a w
theorem o_release (a : Addr) (w : World) : (callFunc 145 #[.pointer (some a)]).run Tryz.prog w = .ok (.value (.tuple #[])) w := run_call_marked Tryz.func145 (by kernel_rfl) (by kernel_rfl) (by kernel_rfl) .releaseMerge (by kernel_rfl) a w
theorem o_store (a : Addr) (x : Value) (u : FrameMode) (w : World) (hc : w.cell? a = some x) (hz : w.frozen? a = false) :
    CallsD Tryz.prog 128 #[.pointer (some a), .bool true] u w fun e u' w' => u' = u ∧ (e = .returned (.tuple #[]) ∧ w' = w.drew.setCell a (.int .u32 1)) := by
  have hc' : w.drew.cell? a = some x := by go_simp
  have hz' : w.drew.frozen? a = false := by go_simp
  have hst := run_call_store (P := Tryz.prog) Tryz.func137 (by kernel_rfl) (by kernel_rfl) (by kernel_rfl) (by kernel_rfl) (k := .u32) (y := 1) hc' hz'
  go_enter_d Tryz.func128, Tryz.ntmps128
  go_wp2
  go_region_calls
  all_goals (go_end0; exact ⟨rfl, rfl⟩)
set_option maxRecDepth 100000 in
theorem o_unlock (a : Addr) (u : FrameMode) (w : World) (hc : w.cell? a = some (.int .i32 1)) (hz : w.frozen? a = false) :
    CallsD Tryz.prog 127 #[.pointer (some a)] u w fun e u' w' => u' = u ∧ (e = .returned (.tuple #[]) ∧ w' = w.setCell a (.int .i32 0)) := by
  have hd := o_disable
  have he := o_enable
  have hr := o_release
  have hadd := run_call_add (P := Tryz.prog) Tryz.func146 (by kernel_rfl) (by kernel_rfl) (by kernel_rfl) .i32 (by kernel_rfl) (y := -1) (s := 0) hc hz (by simp [go_sem]; rfl)
  have hcv := run_convert_to_unsafe (P := Tryz.prog) (src := 178) (dst := 182) Tryz.underlying178 Tryz.underlying182 (by kernel_rfl) hc
  go_enter_d Tryz.func127, Tryz.ntmps127
  go_wp2
  go_end0
  go_wp2
  go_end0
  exact ⟨rfl, rfl⟩
set_option maxRecDepth 100000 in
theorem o_lock (a : Addr) (w : World) (hc : w.cell? a = some (.int .i32 0)) (hz : w.frozen? a = false) :
    Calls Tryz.prog 126 #[.pointer (some a)] w fun e w' => e = .returned (.tuple #[]) ∧ w' = w.setCell a (.int .i32 1) := by
  have hd := o_disable
  have he := o_enable
  have ha := o_acquire
  have hcas := run_call_cas_hit (P := Tryz.prog) Tryz.func141 (by kernel_rfl) (by kernel_rfl) (by kernel_rfl) .i32 (by kernel_rfl) (y := 1) hc hz
  have hc' : (w.setCell a (.int .i32 1)).cell? a = some (.int .i32 1) := World.cell?_setCell_same w a _ hc
  have hcv := run_convert_to_unsafe (P := Tryz.prog) (src := 178) (dst := 182) Tryz.underlying178 Tryz.underlying182 (by kernel_rfl) hc'
  go_enter Tryz.func126, Tryz.ntmps126
  go_wp2
  first | go_end0 | (simp only [Exit.inBlock, Exit.then]; refine bodyPost_ret (results_none rfl _ _ _) rfl ?_) | refine bodyPost_ret (results_none rfl _ _ _) rfl ?_
  go_wp2
  go_end0
  exact ⟨rfl, rfl⟩
end Go.Proofs.YtnmonoafjijfhaaGreat
