/-
  What the laws keep of a chunk that is asked while memory behind it is written into; Dict's texts lie apart from the chunk. Whether a column has a dictionary; the texts that a law has seen.
-/
import Derived.Test.YtnmonoafjijfhabGreatM50
namespace Go.Proofs.YtnmonoafjijfhabGreat
open Go.RowKit
set_option linter.unusedVariables false
set_option linter.unusedSimpArgs false
/-- Behind Dict: texts of their own beside the chunk. -/
def Dicted (w w' : World) (g : Nat) (b : List UInt8) (fp : Nat → Prop) (v : Value) : Prop :=
  ∃ fp' : Nat → Prop, ChD w' g b fp' ∧ (∀ q, fp' q → (fp q ∨ w.heap.size ≤ q) ∧ v.ownBlock ≠ some q) ∧ OwnR 9 st w' w.heap.size v (LD b) ∧ v.ownBlock ≠ some g ∧ w.grownBy w' (some g)
set_option maxRecDepth 100000 in
set_option maxHeartbeats 4000000 in
theorem dict2_is (g : Nat) (b : List UInt8) (fp : Nat → Prop) (w : World) (h : Chk w g b fp) (hok : Ok b) (r : Bool) (hr : decide ((Ck.lread b).f = 2) = r) :
    Calls Tryz.prog 7 #[.pointer (some ⟨g, 0, none⟩)] w fun e w' => ∃ v, e = .returned (.tuple #[v, .bool r]) ∧ Dicted w w' g b fp v := by
  have HC : Hid (Chk w g b fp) := h
  have HOk : Hid (Ok b) := hok
  obtain ⟨F, hF⟩ : ∃ F, (Ck.lread b).f = F := ⟨_, rfl⟩
  have HF : Hid ((Ck.lread b).f = F) := hF
  rw [hF] at hr
  have hww := hok.2.2.2.2
  have hglt := h.lt
  clear h hok hF
  go_enter Tryz.func7, Tryz.ntmps7
  go_wp2_with fail
  go_at_call 22
  refine (values_is g b fp w HC.out HOk.out).mono ?_
  rintro e2 w2 ⟨rfl, hA⟩
  obtain ⟨fp2, hD2, hf2, hg2⟩ := hA
  have HD2 : Hid (ChD w2 g b (fun q => fp2 q ∧ q < w2.heap.size)) := hD2.tight
  have HF2 : Hid (∀ q, fp2 q → fp q ∨ w.heap.size ≤ q) := hf2
  have HG2 : Hid (w.grownBy w2 (some g)) := hg2
  have hs2 : w.heap.size ≤ w2.heap.size := hg2.size
  obtain ⟨x, y, c6, c7, c8, hic, hiz⟩ := Chk.nine hD2
  rw [HF.out] at c6
  obtain ⟨xa, xn, xc⟩ := x
  have c7' : w2.cell? ⟨g, 7, none⟩ = some (.slice xa xn xc) := c7
  have HIC : Hid (IsC (LW b) (xa, xn, xc) w2) := hic
  clear hD2 hf2 hg2 c7 c8 hic hiz
  by_cases h2 : F = 2
  · have t1 : ((F : Int) == 2) = true := by simp; omega
    have t2 : ((F : Int) != 2) = false := by simp [bne, t1]
    have hr1 : r = true := by rw [← hr]; simp [h2]
    have HLD : Hid (LD b = Ck.t2 (LW b)) := (by unfold LD; rw [HF.out, if_pos h2] : LD b = Ck.t2 (LW b))
    subst hr1
    clear h2 hr
    go_wp2_with fail
    go_at_call 13
    refine (textsOf_is xa xn xc (LW b) w2 HIC.out.1 HIC.out.2 hww).mono ?_
    rintro e3 w3 ⟨v3, rfl, hv3, hx3⟩
    have HV : Hid (OwnR 9 st w3 w2.heap.size v3 (LD b)) := (by rw [HLD.out]; exact hv3 : OwnR 9 st w3 w2.heap.size v3 (LD b))
    have hlt : ∀ q, v3.ownBlock = some q → w2.heap.size ≤ q := fun q hq => (World.ownsRow.lt hv3 q hq).1
    have HA3 : Hid (Dicted w w3 g b fp v3) := (⟨fun q => fp2 q ∧ q < w2.heap.size, HD2.out.below hx3, fun q hq => ⟨HF2.out q hq.1, fun e => by have := hlt q e; omega⟩, ⟨HV.out.1, HV.out.2.elim .inl (fun ⟨q, cap, cur, e1, e2, r⟩ => .inr ⟨q, cap, cur, e1, Nat.le_trans hs2 e2, r⟩)⟩, fun e => by have := hlt g e; omega, grown_tr HG2.out (hx3.grownBy _)⟩ : Dicted w w3 g b fp v3)
    clear hv3 hx3 hlt
    go_wp2_with fail
    go_ret2
    exact ⟨_, rfl, HA3.out⟩
  · have t1 : ((F : Int) == 2) = false := beq_eq_false_iff_ne.2 (by omega)
    have t2 : ((F : Int) != 2) = true := by simp [bne, t1]
    have hr1 : r = false := by rw [← hr]; simp [h2]
    have HLD : Hid (LD b = []) := (by unfold LD; rw [HF.out, if_neg h2] : LD b = [])
    subst hr1
    clear h2 hr
    go_wp2_with fail
    go_ret2
    exact ⟨_, rfl, ⟨fun q => fp2 q ∧ q < w2.heap.size, HD2.out, fun q hq => ⟨HF2.out q hq.1, by simp [Value.ownBlock]⟩, by rw [HLD.out]; exact ⟨by simp, .inl ⟨rfl, rfl⟩⟩, by simp [Value.ownBlock], HG2.out⟩⟩
/-- The chunk g of the bytes b, made behind the place B; cells X and numbers A of blocks ahead of S; what was handed out has the block ne. -/
def PkC (w : World) (S B : Nat) (ne : Option Nat) (g : Nat) (b : List UInt8) (a : Option Addr) (cap : Nat) (X : List Ce) (p : Option Addr) (c : Nat) (A : List Int) (wx : World) : Prop :=
  (∃ fp, Chk wx g b fp ∧ ∀ q, fp q → B ≤ q ∧ ne ≠ some q) ∧ RdC wx a cap X ∧ Rd z64 wx p c A ∧ Ex w wx ∧ (w.heap.size ≤ S ∧ S ≤ B ∧ B ≤ g ∧ ne ≠ some g) ∧
  (0 < X.length → ∀ q off, a = some ⟨q, off, none⟩ → q < S) ∧ (0 < A.length → ∀ q off, p = some ⟨q, off, none⟩ → q < S)
section
variable {w wx w' : World} {S B : Nat} {ne : Option Nat} {g : Nat} {b : List UInt8} {a : Option Addr} {cap : Nat} {X : List Ce} {p : Option Addr} {c : Nat} {A : List Int}
theorem PkC.below (h : PkC w S B ne g b a cap X p c A wx) (hx : Ex wx w') : PkC w S B ne g b a cap X p c A w' := by
  obtain ⟨⟨fp, h1, h2⟩, h3, h4, h5, h6⟩ := h
  exact ⟨⟨fp, h1.below hx, h2⟩, h3.below hx, h4.below hx, h5.trans hx, h6⟩
/-- A block of what is read stays as it was where some other block is written into. -/
theorem PkC.move {g' : Nat} (h : PkC w S B ne g b a cap X p c A wx) (hg : wx.grownBy w' (some g')) (hS : S ≤ g') : RdC w' a cap X ∧ Rd z64 w' p c A ∧ Ex w w' := by
  obtain ⟨_, h3, h4, h5, ⟨k1, _⟩, h6, h7⟩ := h
  have hs := h5.size
  exact ⟨RdW.far h3 hg (fun h0 q off he e => by have := h6 h0 q off he; simp only [Option.some.injEq] at e; omega), rd_far h4 hg (fun h0 q off he e => by have := h7 h0 q off he; simp only [Option.some.injEq] at e; omega), Below.grown h5 hg hs (fun k hk => by simp only [Option.some.injEq] at hk; omega)⟩
theorem PkC.chunk (h : PkC w S B ne g b a cap X p c A wx) {fp' : Nat → Prop} {ne' : Option Nat} (hg : wx.grownBy w' (some g)) (hC : Chk w' g b fp') (hf : ∀ q, fp' q → B ≤ q ∧ ne' ≠ some q) (hne : ne' ≠ some g) : PkC w S B ne' g b a cap X p c A w' := by
  obtain ⟨m1, m2, m3⟩ := h.move hg (by obtain ⟨_, _, _, _, ⟨_, k2, k3, _⟩, _⟩ := h; omega)
  obtain ⟨_, _, _, _, ⟨k1, k2, k3, k4⟩, h6⟩ := h
  exact ⟨⟨fp', hC, hf⟩, m1, m2, m3, ⟨k1, k2, k3, hne⟩, h6⟩
theorem PkC.size (h : PkC w S B ne g b a cap X p c A wx) : B ≤ wx.heap.size ∧ g < wx.heap.size := by
  obtain ⟨⟨fp, h1, _⟩, _, _, _, ⟨_, _, k3, _⟩, _⟩ := h
  have := h1.lt
  omega
end
end Go.Proofs.YtnmonoafjijfhabGreat
namespace Go.Proofs.YtnmonoafjijfhabGreat
open Go.RowKit
set_option linter.unusedVariables false
set_option linter.unusedSimpArgs false
theorem opened {b : List UInt8} {K : Int} {L : List Ce} {D : List (List UInt8)} (h : Ck.opn b = some (K, L, D)) : (Ck.encE (LK b) (LC b) = (b, 0) ∧ (Ck.lread b).s.y = 0) ∧ LK b = K ∧ LC b = L ∧ LD b = D := by
  obtain ⟨h1, h2⟩ := opn_is b
  by_cases hy : (Ck.lread b).s.y = 0
  · obtain ⟨d, h3, h4, h5⟩ := h2 hy
    rw [h] at h5
    by_cases hc : Ck.encE (LK b) (LC b) = (b, 0)
    · rw [if_pos hc] at h5
      simp only [Option.some.injEq, Prod.mk.injEq] at h5
      refine ⟨⟨hc, hy⟩, h5.1.symm, h5.2.1.symm, ?_⟩
      unfold LD
      by_cases hf : (Ck.lread b).f = 2
      · rw [if_pos hf, LW, h3 hf, Ck.t2_words, h5.2.2]
      · rw [if_neg hf, h5.2.2, h4 hf]
    · rw [if_neg hc] at h5
      cases h5
  · rw [h1 hy] at h
    cases h
theorem Holds.form {kind : Int} {X : List Ce} {b : List UInt8} (h : Holds kind X b) (hk : kind = 1 ∨ kind = 2) (hl : X.length ≤ 65536) (hX : ∀ c ∈ X, Nrm kind c) : (Ck.lread b).f = Ck.form kind X ∧ LD b = if Ck.form kind X = 2 then T.bld (Ck.txts X) else [] := by
  obtain ⟨hf, hz, h64⟩ := nrm_all hX
  obtain ⟨d, h1, _⟩ := (Ck.lread_is b).2 h.good.2
  have hp := Ck.parse_enc hk hl hf h64
  have ho := Ck.opn_enc hk hl hf h64
  rw [← h.enc] at hp ho
  rw [h1] at hp
  simp only [Option.some.injEq, Prod.mk.injEq] at hp
  exact ⟨hp.1, (opened ho).2.2.2⟩
theorem nodup_le : ∀ {l m : List (List UInt8)}, l.Nodup → (∀ x, x ∈ l → x ∈ m) → l.length ≤ m.length
  | [], m, _, _ => by simp
  | a :: l, m, h, hs => by
    rw [List.nodup_cons] at h
    have ha : a ∈ m := hs a (by simp)
    have ih := nodup_le (l := l) (m := m.erase a) h.2 (fun x hx => (List.mem_erase_of_ne (fun e : x = a => h.1 (by rw [← e]; exact hx))).2 (hs x (by simp [hx])))
    rw [List.length_erase_of_mem ha] at ih
    have : 0 < m.length := List.length_pos_of_mem ha
    simp only [List.length_cons]
    omega
theorem rise_nodup {d : List (List UInt8)} (h : T.Rise d) : d.Nodup := List.Pairwise.imp (fun h => T.lt_ne h) h
theorem same_len {l m : List (List UInt8)} (hl : l.Nodup) (hm : m.Nodup) (h : ∀ x, x ∈ l ↔ x ∈ m) : l.length = m.length :=
  Nat.le_antisymm (nodup_le hl fun x => (h x).1) (nodup_le hm fun x => (h x).2)
theorem Ck.txts_take2 {l : List Ce} {i : Nat} (h : i < l.length) : Ck.txts (l.take (i + 1)) = Ck.txts (l.take i) ++ (if l[i].k = 0 then [] else [l[i].s]) := by
  rw [List.take_succ_eq_append_getElem h]
  unfold Ck.txts Ck.vals
  rw [List.filter_append, List.map_append]
  congr 1
  by_cases h0 : l[i].k = 0 <;> simp [h0]
/-- Just the texts of these cells, each once. -/
def Seen (S : List (List UInt8)) (l : List Ce) : Prop := S.Nodup ∧ ∀ s, s ∈ S ↔ s ∈ Ck.txts l
theorem Seen.none_ : Seen [] [] := ⟨List.nodup_nil, by simp [Ck.txts, Ck.vals]⟩
theorem Seen.skip {S : List (List UInt8)} {l : List Ce} {i : Nat} (h : Seen S (l.take i)) (hi : i < l.length) (hc : l[i].k = 0 ∨ l[i].s ∈ S) : Seen S (l.take (i + 1)) := by
  refine ⟨h.1, fun s => ?_⟩
  rw [Ck.txts_take2 hi, List.mem_append, ← h.2 s]
  by_cases h0 : l[i].k = 0
  · simp [h0]
  · have hm := hc.resolve_left h0
    rw [if_neg h0, List.mem_singleton]
    exact ⟨.inl, fun x => x.elim id (fun e => e ▸ hm)⟩
theorem Seen.add {S : List (List UInt8)} {l : List Ce} {i : Nat} (h : Seen S (l.take i)) (hi : i < l.length) (hk : l[i].k ≠ 0) (hs : ¬ l[i].s ∈ S) : Seen (S ++ [l[i].s]) (l.take (i + 1)) := by
  refine ⟨?_, fun s => ?_⟩
  · rw [List.nodup_append]
    refine ⟨h.1, by simp, fun a ha b hb => ?_⟩
    rw [List.mem_singleton] at hb
    subst hb
    exact fun e => hs (e ▸ ha)
  · rw [Ck.txts_take2 hi, List.mem_append, List.mem_append, ← h.2 s, if_neg hk]
theorem Seen.len {S : List (List UInt8)} {l : List Ce} (h : Seen S l) : S.length = (T.bld (Ck.txts l)).length :=
  same_len h.1 (rise_nodup (T.rise_bld _)) fun x => by rw [T.mem_bld]; exact h.2 x
end Go.Proofs.YtnmonoafjijfhabGreat
