/-
  What the laws keep of a chunk that is asked while memory behind it is written into; Dict's texts lie apart from the chunk.
-/
import Derived.Test.YtnmonoafjijfhaaGreatM50
namespace Go.Proofs.YtnmonoafjijfhaaGreat
open Go.RowKit
set_option linter.unusedVariables false
set_option linter.unusedSimpArgs false
/-- Behind Dict: texts of their own beside the chunk. -/
def Dicted (w w' : World) (g : Nat) (b : List UInt8) (fp : Nat → Prop) (v : Value) : Prop :=
  ∃ fp' : Nat → Prop, ChD w' g b fp' ∧ (∀ q, fp' q → (fp q ∨ w.heap.size ≤ q) ∧ v.ownBlock ≠ some q) ∧ OwnR 9 st w' w.heap.size v (LD b) ∧ v.ownBlock ≠ some g ∧ w.grownBy w' (some g)
set_option maxRecDepth 100000 in
set_option maxHeartbeats 4000000 in
theorem dict2_is (g : Nat) (b : List UInt8) (fp : Nat → Prop) (w : World) (h : Chk w g b fp) (hok : Ok b) (r : Bool) (hr : decide ((Ck.lread b).f = 2) = r) :
    Calls Tryz.prog 28 #[.pointer (some ⟨g, 0, none⟩)] w fun e w' => ∃ v, e = .returned (.tuple #[v, .bool r]) ∧ Dicted w w' g b fp v := by
  have HC : Hid (Chk w g b fp) := h
  have HOk : Hid (Ok b) := hok
  obtain ⟨F, hF⟩ : ∃ F, (Ck.lread b).f = F := ⟨_, rfl⟩
  have HF : Hid ((Ck.lread b).f = F) := hF
  rw [hF] at hr
  have hww := hok.2.2.2.2
  have hglt := h.lt
  clear h hok hF
  go_enter Tryz.func28, Tryz.ntmps28
  go_wp2_with fail
  go_at_call 56
  refine (values_is g b fp w HC.out HOk.out).mono ?_
  rintro e2 w2 ⟨rfl, hA⟩
  obtain ⟨fp2, hD2, hf2, hg2⟩ := hA
  have HD2 : Hid (ChD w2 g b (fun q => fp2 q ∧ q < w2.heap.size)) := hD2.tight
  have HF2 : Hid (∀ q, fp2 q → fp q ∨ w.heap.size ≤ q) := hf2
  have HG2 : Hid (w.grownBy w2 (some g)) := hg2
  have hs2 : w.heap.size ≤ w2.heap.size := hg2.size
  obtain ⟨x, y, c6, c7, c8, hic, hiz⟩ := Chk.nine hD2
  rw [HF.out] at c6
  obtain ⟨xa, xn, xc⟩ := x
  have c7' : w2.cell? ⟨g, 7, none⟩ = some (.slice xa xn xc) := c7
  have HIC : Hid (IsC (LW b) (xa, xn, xc) w2) := hic
  clear hD2 hf2 hg2 c7 c8 hic hiz
  by_cases h2 : F = 2
  · have t1 : ((F : Int) == 2) = true := by simp; omega
    have t2 : ((F : Int) != 2) = false := by simp [bne, t1]
    have hr1 : r = true := by rw [← hr]; simp [h2]
    have HLD : Hid (LD b = Ck.t2 (LW b)) := (by unfold LD; rw [HF.out, if_pos h2] : LD b = Ck.t2 (LW b))
    subst hr1
    clear h2 hr
    go_wp2_with fail
    go_at_call 32
    refine (textsOf_is xa xn xc (LW b) w2 HIC.out.1 HIC.out.2 hww).mono ?_
    rintro e3 w3 ⟨v3, rfl, hv3, hx3⟩
    have HV : Hid (OwnR 9 st w3 w2.heap.size v3 (LD b)) := (by rw [HLD.out]; exact hv3 : OwnR 9 st w3 w2.heap.size v3 (LD b))
    have hlt : ∀ q, v3.ownBlock = some q → w2.heap.size ≤ q := fun q hq => (World.ownsRow.lt hv3 q hq).1
    have HA3 : Hid (Dicted w w3 g b fp v3) := (⟨fun q => fp2 q ∧ q < w2.heap.size, HD2.out.below hx3, fun q hq => ⟨HF2.out q hq.1, fun e => by have := hlt q e; omega⟩, ⟨HV.out.1, HV.out.2.elim .inl (fun ⟨q, cap, cur, e1, e2, r⟩ => .inr ⟨q, cap, cur, e1, Nat.le_trans hs2 e2, r⟩)⟩, fun e => by have := hlt g e; omega, grown_tr HG2.out (hx3.grownBy _)⟩ : Dicted w w3 g b fp v3)
    clear hv3 hx3 hlt
    go_wp2_with fail
    go_ret2
    exact ⟨_, rfl, HA3.out⟩
  · have t1 : ((F : Int) == 2) = false := beq_eq_false_iff_ne.2 (by omega)
    have t2 : ((F : Int) != 2) = true := by simp [bne, t1]
    have hr1 : r = false := by rw [← hr]; simp [h2]
    have HLD : Hid (LD b = []) := (by unfold LD; rw [HF.out, if_neg h2] : LD b = [])
    subst hr1
    clear h2 hr
    go_wp2_with fail
    go_ret2
    exact ⟨_, rfl, ⟨fun q => fp2 q ∧ q < w2.heap.size, HD2.out, fun q hq => ⟨HF2.out q hq.1, by simp [Value.ownBlock]⟩, by rw [HLD.out]; exact ⟨by simp, .inl ⟨rfl, rfl⟩⟩, by simp [Value.ownBlock], HG2.out⟩⟩
/-- The chunk g of the bytes b, made behind the place B; cells X and numbers A of blocks ahead of S; what was handed out has the block ne. -/
def PkC (w : World) (S B : Nat) (ne : Option Nat) (g : Nat) (b : List UInt8) (a : Option Addr) (cap : Nat) (X : List Ce) (p : Option Addr) (c : Nat) (A : List Int) (wx : World) : Prop :=
  (∃ fp, Chk wx g b fp ∧ ∀ q, fp q → B ≤ q ∧ ne ≠ some q) ∧ RdC wx a cap X ∧ Rd z64 wx p c A ∧ Ex w wx ∧ (w.heap.size ≤ S ∧ S ≤ B ∧ B ≤ g ∧ ne ≠ some g) ∧
  (0 < X.length → ∀ q off, a = some ⟨q, off, none⟩ → q < S) ∧ (0 < A.length → ∀ q off, p = some ⟨q, off, none⟩ → q < S)
section
variable {w wx w' : World} {S B : Nat} {ne : Option Nat} {g : Nat} {b : List UInt8} {a : Option Addr} {cap : Nat} {X : List Ce} {p : Option Addr} {c : Nat} {A : List Int}
theorem PkC.below (h : PkC w S B ne g b a cap X p c A wx) (hx : Ex wx w') : PkC w S B ne g b a cap X p c A w' := by
  obtain ⟨⟨fp, h1, h2⟩, h3, h4, h5, h6⟩ := h
  exact ⟨⟨fp, h1.below hx, h2⟩, h3.below hx, h4.below hx, h5.trans hx, h6⟩
theorem PkC.free (h : PkC w S B ne g b a cap X p c A wx) : PkC w S B none g b a cap X p c A wx := by
  obtain ⟨⟨fp, h1, h2⟩, h3, h4, h5, ⟨k1, k2, k3, _⟩, h6⟩ := h
  exact ⟨⟨fp, h1, fun q hq => ⟨(h2 q hq).1, by simp⟩⟩, h3, h4, h5, ⟨k1, k2, k3, by simp⟩, h6⟩
/-- A block of what is read stays as it was where some other block is written into. -/
theorem PkC.move {g' : Nat} (h : PkC w S B ne g b a cap X p c A wx) (hg : wx.grownBy w' (some g')) (hS : S ≤ g') : RdC w' a cap X ∧ Rd z64 w' p c A ∧ Ex w w' := by
  obtain ⟨_, h3, h4, h5, ⟨k1, _⟩, h6, h7⟩ := h
  have hs := h5.size
  exact ⟨RdW.far h3 hg (fun h0 q off he e => by have := h6 h0 q off he; simp only [Option.some.injEq] at e; omega), rd_far h4 hg (fun h0 q off he e => by have := h7 h0 q off he; simp only [Option.some.injEq] at e; omega), Below.grown h5 hg hs (fun k hk => by simp only [Option.some.injEq] at hk; omega)⟩
theorem PkC.wrote {r : Nat} (h : PkC w S B ne g b a cap X p c A wx) (hg : wx.grownBy w' (some r)) (hS : S ≤ r) (hr : r < B ∨ ne = some r) : PkC w S B ne g b a cap X p c A w' := by
  obtain ⟨m1, m2, m3⟩ := h.move hg hS
  obtain ⟨⟨fp, h1, h2⟩, _, _, _, ⟨k1, k2, k3, k4⟩, h6⟩ := h
  refine ⟨⟨fp, h1.far hg (fun e => ?_) (fun hq => ?_), h2⟩, m1, m2, m3, ⟨k1, k2, k3, k4⟩, h6⟩
  · subst e
    rcases hr with hr | hr
    · omega
    · exact k4 hr
  · have := h2 r hq
    rcases hr with hr | hr
    · omega
    · exact this.2 hr
theorem PkC.chunk (h : PkC w S B ne g b a cap X p c A wx) {fp' : Nat → Prop} {ne' : Option Nat} (hg : wx.grownBy w' (some g)) (hC : Chk w' g b fp') (hf : ∀ q, fp' q → B ≤ q ∧ ne' ≠ some q) (hne : ne' ≠ some g) : PkC w S B ne' g b a cap X p c A w' := by
  obtain ⟨m1, m2, m3⟩ := h.move hg (by obtain ⟨_, _, _, _, ⟨_, k2, k3, _⟩, _⟩ := h; omega)
  obtain ⟨_, _, _, _, ⟨k1, k2, k3, k4⟩, h6⟩ := h
  exact ⟨⟨fp', hC, hf⟩, m1, m2, m3, ⟨k1, k2, k3, hne⟩, h6⟩
theorem PkC.size (h : PkC w S B ne g b a cap X p c A wx) : B ≤ wx.heap.size ∧ g < wx.heap.size := by
  obtain ⟨⟨fp, h1, _⟩, _, _, _, ⟨_, _, k3, _⟩, _⟩ := h
  have := h1.lt
  omega
theorem PkC.pick (h : PkC w S B ne g b a cap X p c A wx) (hok : Ok b) {n : Nat} (hn : n = A.length) (hl : n ≤ 60) :
    Calls Tryz.prog 27 #[.pointer (some ⟨g, 0, none⟩), .slice p n c] wx fun e w' => ∃ hh, e = .returned (.slice (some ⟨hh, 0, none⟩) n n) ∧ PkC w S B (some hh) g b a cap X p c A w' ∧ CRow w' hh (A.map (LA b)) ∧ B ≤ hh := by
  obtain ⟨⟨fp, h1, h2⟩, _, h4, _, ⟨_, k2, k3, _⟩, _, h7⟩ := id h
  have hs := h.size
  refine (pick_is g b fp p n c A wx h1 hok hn h4 (fun h0 q off he => by have := h7 h0 q off he; omega) (by omega)).mono ?_
  rintro e w' ⟨hh, rfl, fp', c1, c2, c3, c4, c5⟩
  exact ⟨hh, rfl, h.chunk c5 c1 (fun q hq => ⟨(c2 q hq).1.elim (fun h => (h2 q h).1) (fun h => by omega), by have := (c2 q hq).2; simp; omega⟩) (by simp; omega), c3, by omega⟩
theorem PkC.dict (h : PkC w S B ne g b a cap X p c A wx) (hok : Ok b) (r : Bool) (hr : decide ((Ck.lread b).f = 2) = r) :
    Calls Tryz.prog 28 #[.pointer (some ⟨g, 0, none⟩)] wx fun e w' => ∃ v, e = .returned (.tuple #[v, .bool r]) ∧ PkC w S B v.ownBlock g b a cap X p c A w' ∧ OwnR 9 st w' B v (LD b) := by
  obtain ⟨⟨fp, h1, h2⟩, _⟩ := id h
  have hs := h.size
  refine (dict2_is g b fp wx h1 hok r hr).mono ?_
  rintro e w' ⟨v, rfl, fp', c1, c2, c3, c4, c5⟩
  refine ⟨v, rfl, h.chunk c5 (.inr c1) (fun q hq => ⟨(c2 q hq).1.elim (fun h => (h2 q h).1) (fun h => by omega), (c2 q hq).2⟩) c4, ⟨c3.1, c3.2.elim .inl (fun ⟨q, cap, cur, e1, e2, r⟩ => .inr ⟨q, cap, cur, e1, Nat.le_trans hs.1 e2, r⟩)⟩⟩
end
end Go.Proofs.YtnmonoafjijfhaaGreat
