/-
  Predicates that a call makes: lists of its own, what lies in them elsewhere; one laid by itself, in a region whose order is open. No function of the program here. The books' Cut: a predicate that is not too deep or wide, in memory of its own. Taken out of another text of mine: Rcell. Predicates as they come in. What the statements ask of Eval: predicates that are cut, or laid out; a variable for a predicate in a region whose order is open.
-/
import Derived.Test.YtnmonoafjijfhaaGreatM31
import Derived.Test.YtnmonoafjijfhaaGreatP2
import Derived.Test.YtnmonoafjijfhaaGreatM06
import Derived.Test.YtnmonoafjijfhaaGreatM43
import Derived.Test.YtnmonoafjijfhaaGreatM51
namespace Go.Proofs.YtnmonoafjijfhaaGreat
open Go.RowKit
set_option linter.unusedVariables false
set_option linter.unusedSimpArgs false
theorem Tryz.info54 : (Tryz.prog.info? 54).map (fun i => (i.zero, i.size, i.bytes)) = some (some (.agg #[.int .i64 0, .string ⟨#[]⟩, .int .i64 0, .int .i64 0, .string ⟨#[]⟩, .slice none 0 0, .slice none 0 0]), 7, 104) := by kernel_rfl
namespace Pd
/-- A call's own predicates; what is in them lies in such blocks, and not in theirs. -/
def OwnQ (B : Nat → Prop) (w : World) (base : Nat) (v : Value) (l : List Pr) : Prop := ∃ vs, OwnW 54 7 pc w base v vs ∧ Lays (fun b => v.ownBlock ≠ some b ∧ B b) w vs l
theorem OwnQ.rd {B : Nat → Prop} {w : World} {base : Nat} {v : Value} {l : List Pr} (h : OwnQ B w base v l) : ∃ a cap vs, v = .slice a l.length cap ∧ RdW 7 pc w a cap vs ∧ Lays B w vs l := by
  obtain ⟨vs, h1, h2⟩ := h
  obtain ⟨a, cap, rfl, h3⟩ := h1.rd pc_len
  exact ⟨a, cap, vs, by rw [h2.1], h3, h2.mono fun _ hb => hb.2⟩
theorem OwnQ.nil (B : Nat → Prop) (w : World) (base : Nat) : OwnQ B w base (.slice none 0 0) [] := ⟨[], ownW_none w base, Lays.nil _ w⟩
theorem OwnQ.later {B : Nat → Prop} {w w' : World} {base : Nat} {v : Value} {l : List Pr} (h : OwnQ B w base v l) (hx : Ex w w') : OwnQ B w' base v l := by
  obtain ⟨vs, h1, h2⟩ := h
  exact ⟨vs, h1.later hx, h2.below hx⟩
theorem OwnQ.lt {B : Nat → Prop} {w : World} {base : Nat} {v : Value} {l : List Pr} (h : OwnQ B w base v l) : ∀ g, v.ownBlock = some g → base ≤ g ∧ g < w.heap.size := by
  obtain ⟨vs, h1, _⟩ := h
  exact h1.lt
/-- Another block is written. -/
theorem OwnQ.far {B : Nat → Prop} {w : World} {base g j : Nat} {v u : Value} {l : List Pr} (h : OwnQ B w base v l) (hg : v.ownBlock ≠ some g) (hB : ¬ B g) : OwnQ B (w.setCell ⟨g, j, none⟩ u) base v l := by
  obtain ⟨vs, h1, h2⟩ := h
  exact ⟨vs, h1.apart hg, h2.far (row := some g) (fun b hb e => hB (by simp at e; rw [e]; exact hb.2)) (grown_set1 w g j u)⟩
theorem OwnQ.mono {B C : Nat → Prop} (hB : ∀ b, B b → C b) {w : World} {base : Nat} {v : Value} {l : List Pr} (h : OwnQ B w base v l) : OwnQ C w base v l := by
  obtain ⟨vs, h1, h2⟩ := h
  exact ⟨vs, h1, h2.mono fun b hb => ⟨hb.1, hB b hb.2⟩⟩
theorem OwnQ.grown {B : Nat → Prop} {w w' : World} {base g : Nat} {v : Value} {l : List Pr} (h : OwnQ B w base v l) (hg : w.grownBy w' (some g)) (hne : v.ownBlock ≠ some g) (hB : ¬ B g) : OwnQ B w' base v l := by
  obtain ⟨vs, h1, h2⟩ := h
  exact ⟨vs, World.ownsRow.kept h1 hg (.inr hne), h2.far (fun b hb e => hB (by simp at e; rw [e]; exact hb.2)) hg⟩
theorem lays_afterQ {B : Nat → Prop} {w w' : World} {v v' : Value} {vs : List PV} {l : List Pr} (h : Lays (fun b => v.ownBlock ≠ some b ∧ B b) w vs l) (hg : w.grownBy w' v.ownBlock) (hat : v'.ownBlock = v.ownBlock ∨ v'.ownBlock = some w.heap.size) :
    Lays (fun b => v'.ownBlock ≠ some b ∧ B b) w' vs l := by
  rcases hat with hat | hat
  · rw [hat]; exact h.far (fun b hb => hb.1) hg
  · refine (h.lt.far (fun b hb => hb.1.1) hg).mono fun b hb => ⟨?_, hb.1.2⟩
    rw [hat]
    intro e
    have := hb.2
    simp at e
    omega
/-- 'append(out, l...)', l whatever predicates that can be read, and lie elsewhere. -/
theorem wpList_append_Q {B : Nat → Prop} {w : World} {ops : Array Oper} {rest : List Oper} {o : Oper} {a : Act} {Q : Exit → Act → World → Prop} (hgd : o.guard = none) (s x : Operand)
    (ho : o.op = .call { callee := .builtin .append, args := #[s, x], argTypes := #[52, 52] }) (base : Nat)
    (v : Value) (xs : List Pr) (hs : a.eval s = v) (hown : OwnQ B w base v xs) (p : Option Addr) (n c : Nat) (us : List PV) (l : List Pr) (hx : a.eval x = .slice p n c) (hn : n = l.length) (hB : RdW 7 pc w p c us) (hL : Lays (fun b => v.ownBlock ≠ some b ∧ B b) w us l)
    (h63 : xs.length + l.length ≤ 1000000) (hbase : base ≤ w.heap.size)
    (h : ∀ v' w', OwnQ B w' base v' (xs ++ l) → w.grownBy w' v.ownBlock → (v'.ownBlock = v.ownBlock ∨ v'.ownBlock = some w.heap.size) → wpList Tryz.prog ops Q rest (a.put o.dst v') w') : wpList Tryz.prog ops Q (o :: rest) a w := by
  obtain ⟨vs, h1, h2⟩ := hown
  have e1 := h2.1
  have e2 := hL.1
  refine wpList_append_wide pc_len pc_one hgd s x 52 _ 104 ho Tryz.underlying52 Tryz.info54 (by decide) rfl base v vs hs h1 p n c us hx (by omega) hB (by unfold maxLen; omega) (by rw [e1, e2]; omega) hbase ?_
  intro v' w' hO hg hat
  exact h v' w' ⟨vs ++ us, hO, lays_afterQ (h2.append hL) hg hat⟩ hg hat
/-- A value is such a predicate. -/
def IsP (B : Nat → Prop) (p : Pr) (v : Value) (w : World) : Prop := ∃ u, v = pvv u ∧ Lay B p w u
theorem IsP.stands (B : Nat → Prop) (p : Pr) : ∀ v w w', IsP B p v w → Ex w w' → IsP B p v w' := by
  rintro v w w' ⟨u, rfl, h⟩ hx
  exact ⟨u, rfl, Lay.below _ h hx⟩
/-- A value is a list of such predicates, in a block that is new. -/
def IsPs (base : Nat) (B : Nat → Prop) (l : List Pr) (v : Value) (w : World) : Prop := ∃ g us, v = .slice (some ⟨g, 0, none⟩) l.length l.length ∧ base ≤ g ∧ RdW 7 pc w (some ⟨g, 0, none⟩) l.length us ∧ Lays B w us l
theorem IsPs.stands (base : Nat) (B : Nat → Prop) (l : List Pr) : ∀ v w w', IsPs base B l v w → Ex w w' → IsPs base B l v w' := by
  rintro v w w' ⟨g, us, rfl, h0, h1, h2⟩ hx
  exact ⟨g, us, rfl, h0, h1.below hx, h2.below hx⟩
end Pd
end Go.Proofs.YtnmonoafjijfhaaGreat
namespace Go.Proofs.YtnmonoafjijfhaaGreat
open Go.RowKit
set_option linter.unusedVariables false
set_option linter.unusedSimpArgs false
/-- What comes in: texts that a machine bears. -/
structure HdRaw (h : Hd) : Prop where
  k : In64 h.k
  n : In64 h.n
  m : In64 h.m
  col : h.col.length ≤ maxLen
  s : h.s.length ≤ maxLen
  each : ∀ t ∈ h.set, t.length ≤ maxLen
namespace Pd
def Raw : Pr → Prop := rec' fun h l a => HdRaw h ∧ ∀ x ∈ a, x
theorem raw_mk (h : Hd) (l : List Pr) : Raw (Pr.mk' h l) ↔ HdRaw h ∧ ∀ x ∈ l, Raw x := by
  rw [Raw, rec_mk]
  constructor
  · rintro ⟨h1, h2⟩
    exact ⟨h1, fun x hx => h2 _ (List.mem_map.2 ⟨x, hx, rfl⟩)⟩
  · rintro ⟨h1, h2⟩
    refine ⟨h1, fun x hx => ?_⟩
    obtain ⟨y, hy, rfl⟩ := List.mem_map.1 hx
    exact h2 y hy
theorem cut_fine : ∀ p, Raw p → ∀ d, Fine (cut p d) := by
  refine tree ?_
  intro h l ih hr d
  rw [raw_mk] at hr
  obtain ⟨hh, hl⟩ := hr
  rw [cut_mk, fine_mk]
  refine ⟨⟨hh.k, hh.n, hh.m, ?_, ?_, ?_, ?_⟩, ?_, ?_⟩
  · simp [cutH]; omega
  · simp [cutH]; omega
  · simp [cutH]; omega
  · intro t ht
    simp only [cutH, List.mem_map] at ht
    obtain ⟨x, _, rfl⟩ := ht
    simp; omega
  · split
    · simp
    · simp; omega
  · intro x hx
    split at hx
    · simp at hx
    · obtain ⟨y, hy, rfl⟩ := List.mem_map.1 hx
      exact ih y (mem_take hy) (hl y (mem_take hy)) _
end Pd
set_option maxHeartbeats 8000000 in
set_option maxRecDepth 100000 in
theorem cut_is : ∀ (p : Pr) (v : PV) (w : World) (d : Nat), Pd.Lay (fun _ => True) p w v → Pd.Raw p → d ≤ 1000 →
    Calls Tryz.prog 23 #[pvv v, .int .i64 d] w fun e w' => ∃ u, e = .returned (pvv u) ∧ Pd.Lay (fun b => w.heap.size ≤ b) (Pd.cut p d) w' u ∧ Ex w w' := by
  refine Pd.tree ?_
  intro h l ih v w d hL hRaw hd
  rw [Pd.raw_mk] at hRaw
  obtain ⟨hH, hRk⟩ := hRaw
  obtain ⟨hHd, hkn, hkB, hkc, hkm, hk0⟩ := hL.head
  obtain ⟨vk, vcol, vn, vm, vs, ⟨sa, sn, sc⟩, ⟨p, n, cap⟩⟩ := v
  simp only at hkn hkB hkc hkm hk0
  subst hkn
  obtain ⟨k, col, hn', m, s, set⟩ := h
  obtain ⟨⟨rfl, rfl, rfl, rfl, rfl⟩, hsn, hB, hIB⟩ := hHd
  simp only at hsn hB
  subst hsn
  have hs1 := hB.1
  have hs2 := hB.2.1
  have hcl : vcol.length ≤ maxLen := hH.col
  have hsl : vs.length ≤ maxLen := hH.s
  have HEA : Hid (∀ t ∈ set, t.length ≤ maxLen) := hH.each
  have HIH : Hid (∀ k ∈ l, ∀ (v : PV) (w : World) (d : Nat), Pd.Lay (fun _ => True) k w v → Pd.Raw k → d ≤ 1000 → Calls Tryz.prog 23 #[pvv v, .int .i64 d] w fun e w' => ∃ u, e = .returned (pvv u) ∧ Pd.Lay (fun b => w.heap.size ≤ b) (Pd.cut k d) w' u ∧ Ex w w') := ih
  have HRK : Hid (∀ k ∈ l, Pd.Raw k) := hRk
  have HLw : Hid (Pd.Lay (fun _ => True) (Pr.mk' ⟨vk, vcol, vn, vm, vs, set⟩ l) w ⟨vk, vcol, vn, vm, vs, (sa, set.length, sc), p, l.length, cap⟩) := hL
  obtain ⟨W, hW⟩ : ∃ W, (w.alloc (pb ⟨vk, vcol, vn, vm, vs, (sa, set.length, sc), p, l.length, cap⟩)).alloc pb0 = W := ⟨_, rfl⟩
  have hX1 : Ex w (w.alloc (pb ⟨vk, vcol, vn, vm, vs, (sa, set.length, sc), p, l.length, cap⟩)) := (Below.refl _ _).alloc (Nat.le_refl _) _
  have hXW : Ex w W := by rw [← hW]; exact Below.alloc hX1 (by simp) _
  have HXW : Hid (Ex w W) := hXW
  have HSZ : Hid (W.heap.size = w.heap.size + 2) := (by rw [← hW]; simp : W.heap.size = w.heap.size + 2)
  have HP : Hid (PAt W w.heap.size ⟨vk, vcol, vn, vm, vs, (sa, set.length, sc), p, l.length, cap⟩) := (by rw [← hW]; exact (PAt.new w _).alloc _ : PAt W w.heap.size _)
  have HZ : Hid (PAt W (w.heap.size + 1) PV.zero) := (by
    rw [← hW]
    exact PAt.newat (w.alloc (pb ⟨vk, vcol, vn, vm, vs, (sa, set.length, sc), p, l.length, cap⟩)) (w.heap.size + 1) PV.zero (by simp) : PAt W (w.heap.size + 1) PV.zero)
  have HB : Hid (Rd st w sa sc set) := hB
  obtain ⟨p0, p1, p2, p3, p4, p5, p6⟩ := HP.out.all
  obtain ⟨g0, g1, g2, g3, g4, g5, g6⟩ := HP.out.fro
  simp only at p0 p1 p2 p3 p4 p5 p6
  unfold maxLen at hkm hs2 hcl hsl
  have zc := str_size vcol
  have zs := str_size vs
  have xc : (str vcol).extract 0 20 = str (vcol.take 20) := str_cut _ _
  have xs : (str vs).extract 0 41 = str (vs.take 41) := str_cut _ _
  clear hL hB hkB ih hXW hH hRk hX1 hIB
  unfold pvv
  simp only [sv]
  go_enter Tryz.func23, Tryz.ntmps23
  obtain ⟨colx, hcolx⟩ : ∃ colx, vcol.take 20 = colx := ⟨_, rfl⟩
  rw [hcolx] at xc
  have HCC : Hid (colx = (Pd.cutH ⟨vk, vcol, vn, vm, vs, set⟩).col) := (hcolx.symm : colx = _)
  have HCV : Hid (¬ 20 < vcol.length → vcol = colx) := (fun h => by rw [← hcolx, List.take_of_length_le (by omega)] : ¬ 20 < vcol.length → vcol = colx)
  obtain ⟨sx, hsx⟩ : ∃ sx, vs.take 41 = sx := ⟨_, rfl⟩
  rw [hsx] at xs
  have HSS : Hid (sx = (Pd.cutH ⟨vk, vcol, vn, vm, vs, set⟩).s) := (hsx.symm : sx = _)
  have HSV : Hid (¬ 41 < vs.length → vs = sx) := (fun h => by rw [← hsx, List.take_of_length_le (by omega)] : ¬ 41 < vs.length → vs = sx)
  clear hcolx hsx
  go_upto_if 13 with fail
  go_cut [13] from 13 to 17 (fun v13 wc => Hid (PAt wc w.heap.size ⟨vk, colx, vn, vm, vs, (sa, set.length, sc), p, l.length, cap⟩) ∧ Hid (PAt wc (w.heap.size + 1) PV.zero) ∧ Hid (Ex w wc) ∧ Hid (w.heap.size + 2 ≤ wc.heap.size))
  case first =>
    by_cases hlc : 20 < vcol.length
    · have dc : decide ((20 : Int) < (vcol.length : Int)) = true := by simp; omega
      have dcn : decide (20 < vcol.length) = true := by simp; omega
      have bc : (20 : Int) ≤ (vcol.length : Int) := by omega
      obtain ⟨wc, hwc⟩ : ∃ wc, W.setCell ⟨w.heap.size, 1, none⟩ (.string (str colx)) = wc := ⟨_, rfl⟩
      have HPc : Hid (PAt wc w.heap.size ⟨vk, colx, vn, vm, vs, (sa, set.length, sc), p, l.length, cap⟩) := (by rw [← hwc]; exact HP.out.set rfl : PAt wc _ _)
      have HZc : Hid (PAt wc (w.heap.size + 1) PV.zero) := (by rw [← hwc]; exact HZ.out.other (by omega) : PAt wc _ _)
      have HXc : Hid (Ex w wc) := (by rw [← hwc]; exact Below.setCell HXW.out (Nat.le_refl _) _ : Ex w wc)
      have HSc : Hid (w.heap.size + 2 ≤ wc.heap.size) := (by rw [← hwc]; simp; have := HSZ.out; omega : w.heap.size + 2 ≤ wc.heap.size)
      go_wp2_with fail
      go_meet
      exact ⟨HPc, HZc, HXc, HSc⟩
    · have dc : decide ((20 : Int) < (vcol.length : Int)) = false := by simp; omega
      have dcn : decide (20 < vcol.length) = false := by simp; omega
      have HPc : Hid (PAt W w.heap.size ⟨vk, colx, vn, vm, vs, (sa, set.length, sc), p, l.length, cap⟩) := (by have h := HP.out; rw [← HCV.out hlc]; exact h : PAt W _ _)
      have HSc : Hid (w.heap.size + 2 ≤ W.heap.size) := (by have := HSZ.out; omega : w.heap.size + 2 ≤ W.heap.size)
      go_wp2_with fail
      go_meet
      exact ⟨HPc, HZ, HXW, HSc⟩
  case rest =>
    obtain ⟨HPc, HZc, HXc, HSc⟩ := hcut
    clear p0 p1 p2 p3 p4 p5 p6 g0 g1 g2 g3 g4 g5 g6
    obtain ⟨wd, hwd⟩ : ∃ W, W = wc := ⟨_, rfl⟩
    subst hwd
    obtain ⟨a0, a1, a2, a3, a4, a5, a6⟩ := HPc.out.all
    obtain ⟨b0, b1, b2, b3, b4, b5, b6⟩ := HPc.out.fro
    simp only at a0 a1 a2 a3 a4 a5 a6
    go_upto_if 21 with fail
    go_cut [21] from 21 to 25 (fun v21 wc => Hid (PAt wc w.heap.size ⟨vk, colx, vn, vm, sx, (sa, set.length, sc), p, l.length, cap⟩) ∧ Hid (PAt wc (w.heap.size + 1) PV.zero) ∧ Hid (Ex w wc) ∧ Hid (w.heap.size + 2 ≤ wc.heap.size))
    case first =>
      by_cases hls : 41 < vs.length
      · have ds : decide ((41 : Int) < (vs.length : Int)) = true := by simp; omega
        have dsn : decide (41 < vs.length) = true := by simp; omega
        have bs : (41 : Int) ≤ (vs.length : Int) := by omega
        obtain ⟨ws, hws⟩ : ∃ ws, wd.setCell ⟨w.heap.size, 4, none⟩ (.string (str sx)) = ws := ⟨_, rfl⟩
        have HPs : Hid (PAt ws w.heap.size ⟨vk, colx, vn, vm, sx, (sa, set.length, sc), p, l.length, cap⟩) := (by rw [← hws]; exact PAt.set HPc.out rfl : PAt ws _ _)
        have HZs : Hid (PAt ws (w.heap.size + 1) PV.zero) := (by rw [← hws]; exact PAt.other HZc.out (by omega) : PAt ws _ _)
        have HXs : Hid (Ex w ws) := (by rw [← hws]; exact Below.setCell HXc.out (Nat.le_refl _) _ : Ex w ws)
        have HSs : Hid (w.heap.size + 2 ≤ ws.heap.size) := (by rw [← hws]; simp; have := HSc.out; omega : w.heap.size + 2 ≤ ws.heap.size)
        go_wp2_with fail
        go_meet
        exact ⟨HPs, HZs, HXs, HSs⟩
      · have ds : decide ((41 : Int) < (vs.length : Int)) = false := by simp; omega
        have dsn : decide (41 < vs.length) = false := by simp; omega
        have HPs : Hid (PAt wd w.heap.size ⟨vk, colx, vn, vm, sx, (sa, set.length, sc), p, l.length, cap⟩) := (by have h := HPc.out; rw [← HSV.out hls]; exact h : PAt wd _ _)
        go_wp2_with fail
        go_meet
        exact ⟨HPs, HZc, HXc, HSc⟩
    case rest =>
      obtain ⟨HPA, HZA, HXA, HSA⟩ := hcut
      clear a0 a1 a2 a3 a4 a5 a6 b0 b1 b2 b3 b4 b5 b6
      obtain ⟨q0, q1, q2, q3, q4, q5, q6⟩ := HPA.out.all
      simp only at q0 q1 q2 q3 q4 q5 q6
      go_wp2_with fail
      clear q0 q1 q2 q3 q4 q5 q6
      go_loopw [5, 6, 7] (fun tv iv sv7 wr => ∃ i : Nat, i ≤ set.length ∧ i ≤ 9 ∧ iv = .int .i64 i ∧ Hid (OwnR 9 st wr (w.heap.size + 2) tv ((set.take i).map fun s => s.take 41)) ∧ Hid (PAt wr w.heap.size ⟨vk, colx, vn, vm, sx, (sa, set.length, sc), p, l.length, cap⟩) ∧ Hid (PAt wr (w.heap.size + 1) PV.zero) ∧ Hid (w.heap.size + 2 ≤ wr.heap.size) ∧ Hid (Ex w wr)) (fun tv iv sv7 wr => set.length - (intOf iv).toNat)
      case atStart => exact ⟨0, by omega, by omega, rfl, (World.ownsRow_nil _ _ _ _ : OwnR 9 st _ (w.heap.size + 2) (.slice none 0 0) ((set.take 0).map fun s => s.take 41)), HPA, HZA, HSA, HXA⟩
      case round =>
        obtain ⟨i, hi, hi9, rfl, HO, HPr, HZr, HSr, HXr⟩ := hrel
        have c5 := HPr.out.all.2.2.2.2.2.1
        have c6 := HPr.out.all.2.2.2.2.2.2
        simp only at c5 c6
        by_cases hlt : i < set.length ∧ i < 9
        · obtain ⟨hlt, hl9⟩ := hlt
          have hti : (i : Int) < (set.length : Int) := by omega
          have ht9 : (i : Int) < 9 := by omega
          have dti : decide ((i : Int) < (set.length : Int)) = true := by simp; omega
          have dt9 : decide ((i : Int) < 9) = true := by simp; omega
          obtain ⟨b, off, hpp, e0⟩ := (HB.out.below HXr.out).at hlt
          obtain ⟨x, hx⟩ : ∃ x, set[i] = x := ⟨_, rfl⟩
          rw [hx] at e0
          have hxl : x.length ≤ maxLen := HEA.out x (by rw [← hx]; exact List.getElem_mem hlt)
          unfold maxLen at hxl
          have HNX : Hid (((set.take (i + 1)).map fun s => s.take 41) = ((set.take i).map fun s => s.take 41) ++ [x.take 41]) := (by
            rw [List.take_add_one, List.getElem?_eq_getElem hlt, hx, List.map_append]
            rfl : ((set.take (i + 1)).map fun s => s.take 41) = ((set.take i).map fun s => s.take 41) ++ [x.take 41])
          obtain ⟨y, hy⟩ : ∃ y, x.take 41 = y := ⟨_, rfl⟩
          rw [hy] at HNX
          have HY : Hid (x.take 41 = y) := hy
          have zx := str_size x
          have xx : (str x).extract 0 41 = str y := by rw [← hy]; exact str_cut _ _
          obtain ⟨w1, hw1⟩ : ∃ w1, wr.alloc (.cells #[.string (str y)] 9) = w1 := ⟨_, rfl⟩
          have hX1 : Ex wr w1 := by rw [← hw1]; exact (Below.refl _ _).alloc (Nat.le_refl _) _
          have HX1 : Hid (Ex w w1) := (HXr.out.trans hX1 : Ex w w1)
          have HR1 : Hid (Rd st w1 (some ⟨wr.heap.size, 0, none⟩) 1 [y]) := (by rw [← hw1]; exact Rd.laid wr 9 [y] (by simp) : Rd st w1 _ 1 [y])
          have HO1 : Hid (OwnR 9 st w1 (w.heap.size + 2) u5 ((set.take i).map fun s => s.take 41)) := (HO.out.later hX1 : OwnR 9 st w1 _ u5 _)
          have HP1 : Hid (PAt w1 w.heap.size ⟨vk, colx, vn, vm, sx, (sa, set.length, sc), p, l.length, cap⟩) := (HPr.out.below hX1 : PAt w1 _ _)
          have HZ1 : Hid (PAt w1 (w.heap.size + 1) PV.zero) := (HZr.out.below hX1 : PAt w1 _ _)
          have HS1 : Hid (w.heap.size + 2 ≤ w1.heap.size) := (Nat.le_trans HSr.out hX1.size : w.heap.size + 2 ≤ w1.heap.size)
          have hstep : ∀ v9 w9, OwnR 9 st w9 (w.heap.size + 2) v9 (((set.take i).map fun s => s.take 41) ++ [y]) → w1.grownBy w9 u5.ownBlock → Hid (OwnR 9 st w9 (w.heap.size + 2) v9 ((set.take (i + 1)).map fun s => s.take 41)) ∧ Hid (PAt w9 w.heap.size ⟨vk, colx, vn, vm, sx, (sa, set.length, sc), p, l.length, cap⟩) ∧ Hid (PAt w9 (w.heap.size + 1) PV.zero) ∧ Hid (w.heap.size + 2 ≤ w9.heap.size) ∧ Hid (Ex w w9) := by
            intro v9 w9 ho9 hg9
            have hob := World.ownsRow.lt HO1.out
            have hne : ∀ g, g < w.heap.size + 2 → u5.ownBlock ≠ some g := fun g hg e => by have := (hob g e).1; omega
            refine ⟨by rw [HNX.out]; exact ho9, HP1.out.far hg9 (hne _ (by omega)), HZ1.out.far hg9 (hne _ (by omega)), Nat.le_trans HS1.out hg9.size, Below.grown HX1.out hg9 HX1.out.size (fun g hg => by have := (hob g hg).1; omega)⟩
          have hlen9 : ((set.take i).map fun s => s.take 41).length + [y].length ≤ 1000 := by simp; omega
          subst hpp
          clear hx hy hX1 hlt hl9
          by_cases hx41 : 41 < x.length
          · have d41 : decide ((41 : Int) < (x.length : Int)) = true := by simp; omega
            have d41n : decide (41 < x.length) = true := by simp; omega
            have b41 : (41 : Int) ≤ (x.length : Int) := by omega
            go_wp2_with (at_builtin; refine wpList_append_rd_at (e := 9) (enc := st) rfl (.tmp 47) (.tmp 49) 35 rfl [] 16 Tryz.underlying35 Tryz.info9 rfl (fun _ => rfl) (w.heap.size + 2) _ _ rfl HO1.out (some ⟨wr.heap.size, 0, none⟩) 1 1 [y] rfl rfl HR1.out (by unfold maxLen; omega) (by omega) HS1.out ?_; intro v9 w9 ho9 hg9 hat9; obtain ⟨HO9, HP9, HZ9, HS9, HX9⟩ := hstep v9 w9 ho9 hg9; clear ho9 hg9 hat9)
            go_roundw
            case rel => exact ⟨i + 1, by omega, by omega, by go_num, HO9, HP9, HZ9, HS9, HX9⟩
            case measure => simp [intOf]; omega
          · have d41 : decide ((41 : Int) < (x.length : Int)) = false := by simp; omega
            have d41n : decide (41 < x.length) = false := by simp; omega
            have hyx : y = x := by rw [← HY.out]; exact List.take_of_length_le (by omega)
            subst hyx
            go_wp2_with (at_builtin; refine wpList_append_rd_at (e := 9) (enc := st) rfl (.tmp 47) (.tmp 49) 35 rfl [] 16 Tryz.underlying35 Tryz.info9 rfl (fun _ => rfl) (w.heap.size + 2) _ _ rfl HO1.out (some ⟨wr.heap.size, 0, none⟩) 1 1 [y] rfl rfl HR1.out (by unfold maxLen; omega) (by omega) HS1.out ?_; intro v9 w9 ho9 hg9 hat9; obtain ⟨HO9, HP9, HZ9, HS9, HX9⟩ := hstep v9 w9 ho9 hg9; clear ho9 hg9 hat9)
            go_roundw
            case rel => exact ⟨i + 1, by omega, by omega, by go_num, HO9, HP9, HZ9, HS9, HX9⟩
            case measure => simp [intOf]; omega
        · have HSE : Hid (((set.take i).map fun s => s.take 41) = ((set.take 9).map fun s => s.take 41)) := (by
            by_cases h9 : i = 9
            · rw [h9]
            · rw [List.take_of_length_le (by omega), List.take_of_length_le (l := set) (i := 9) (by omega)] : ((set.take i).map fun s => s.take 41) = _)
          obtain ⟨S9, hS9⟩ : ∃ S9, ((set.take 9).map fun s => s.take 41) = S9 := ⟨_, rfl⟩
          have HS9 : Hid (((set.take 9).map fun s => s.take 41) = S9) := hS9
          have hOr : OwnR 9 st wr (w.heap.size + 2) u5 S9 := by rw [← hS9, ← HSE.out]; exact HO.out
          have hob := World.ownsRow.lt hOr
          obtain ⟨a9, c9, rfl, hb9⟩ := hOr.rd
          obtain ⟨L9, hL9⟩ : ∃ L9, S9.length = L9 := ⟨_, rfl⟩
          have HL9 : Hid (S9.length = L9) := hL9
          rw [hL9] at hob ⊢
          obtain ⟨w2, hw2⟩ : ∃ w2, wr.setCell ⟨w.heap.size, 5, none⟩ (.slice a9 L9 c9) = w2 := ⟨_, rfl⟩
          have HP2 : Hid (PAt w2 w.heap.size ⟨vk, colx, vn, vm, sx, (a9, L9, c9), p, l.length, cap⟩) := (by rw [← hw2]; exact HPr.out.set rfl : PAt w2 _ _)
          have HZ2 : Hid (PAt w2 (w.heap.size + 1) PV.zero) := (by rw [← hw2]; exact HZr.out.other (by omega) : PAt w2 _ _)
          have HX2 : Hid (Ex w w2) := (by rw [← hw2]; exact Below.setCell HXr.out (Nat.le_refl _) _ : Ex w w2)
          have HSB : Hid (∀ g off, a9 = some ⟨g, off, none⟩ → w.heap.size + 2 ≤ g ∧ g < w2.heap.size) := (by
            intro g off e
            have h1 := hob g (by rw [e]; rfl)
            rw [← hw2]
            simpa using h1 : ∀ g off, a9 = some ⟨g, off, none⟩ → w.heap.size + 2 ≤ g ∧ g < w2.heap.size)
          have HR2 : Hid (Rd st w2 a9 c9 S9) := (by
            rw [← hw2]
            exact rd_far hb9 (grown_set1 _ _ _ _) (fun _ b off e => by have := (hob b (by rw [e]; rfl)).1; simp; omega) : Rd st w2 a9 c9 S9)
          have HS2 : Hid (w.heap.size + 2 ≤ w2.heap.size) := (by rw [← hw2]; simpa using HSr.out : w.heap.size + 2 ≤ w2.heap.size)
          have f5 := HPr.out.fro.2.2.2.2.2.1
          have dd : ¬ (i : Int) < (set.length : Int) ∨ ((i : Int) < (set.length : Int) ∧ ¬ (i : Int) < 9) := by
            by_cases h1 : i < set.length
            · exact .inr ⟨by omega, by omega⟩
            · exact .inl (by omega)
          clear hOr hob hb9 hS9 hL9 hlt
          rcases dd with dd | ⟨dd, dd9⟩
          all_goals
            go_wp2_with fail
            clear c5 c6 f5 dd
            go_loopw [8, 9] (fun kv iv wq => ∃ j : Nat, j ≤ l.length ∧ j ≤ 4 ∧ (j ≤ 0 ∨ 0 < d) ∧ iv = .int .i64 j ∧ Hid (Pd.OwnQ (fun b => w.heap.size + 2 ≤ b) wq w2.heap.size kv ((l.take j).map fun x => Pd.cut x (d - 1))) ∧ Hid (PAt wq w.heap.size ⟨vk, colx, vn, vm, sx, (a9, L9, c9), p, l.length, cap⟩) ∧ Hid (PAt wq (w.heap.size + 1) PV.zero) ∧ Hid (Rd st wq a9 c9 S9) ∧ Hid (w2.heap.size ≤ wq.heap.size) ∧ Hid (Ex w wq)) (fun kv iv wq => l.length - (intOf iv).toNat)
            case atStart => exact ⟨0, by omega, by omega, .inl (by omega), rfl, (Pd.OwnQ.nil _ _ _ : Pd.OwnQ (fun b => w.heap.size + 2 ≤ b) w2 w2.heap.size (.slice none 0 0) ((l.take 0).map fun x => Pd.cut x (d - 1))), HP2, HZ2, HR2, (Nat.le_refl _ : w2.heap.size ≤ w2.heap.size), HX2⟩
            case round =>
              obtain ⟨j, hj, hj4, hjd, rfl, HQ, HPq, HZq, HRq, HSq, HXq⟩ := hrel
              have c6 := HPq.out.all.2.2.2.2.2.2
              simp only at c6
              by_cases hlt : j < l.length ∧ j < 4 ∧ 0 < d
              · obtain ⟨hlt, hl4, hd0⟩ := hlt
                have hti : (j : Int) < (l.length : Int) := by omega
                have HJ4 : Hid (j < 4) := hl4
                have dti : decide ((j : Int) < (l.length : Int)) = true := by simp; omega
                have dt4 : decide ((j : Int) < 4) = true := by simp; omega
                have dtd : decide ((0 : Int) < (d : Int)) = true := by simp; omega
                have dtdn : decide (0 < d) = true := by simp; omega
                have hLr := Pd.Lay.below _ HLw.out HXq.out
                obtain ⟨b, off, u, hpp, hbg, hLk, e0, e1, e2, e3, e4, e5, e6⟩ := hLr.kid hlt
                simp only at hpp
                obtain ⟨k, hk⟩ : ∃ k, l[j] = k := ⟨_, rfl⟩
                rw [hk] at hLk
                have HK : Hid (k ∈ l) := (by rw [← hk]; exact List.getElem_mem hlt : k ∈ l)
                have HNX : Hid (((l.take (j + 1)).map fun x => Pd.cut x (d - 1)) = ((l.take j).map fun x => Pd.cut x (d - 1)) ++ [Pd.cut k (d - 1)]) := (by
                  rw [List.take_add_one, List.getElem?_eq_getElem hlt, hk, List.map_append]
                  rfl : ((l.take (j + 1)).map fun x => Pd.cut x (d - 1)) = _)
                obtain ⟨d1, hd1⟩ : ∃ d1, d1 + 1 = d := ⟨d - 1, by omega⟩
                have HD1 : Hid (d1 + 1 = d) := hd1
                have td : (d : Int) - 1 = (d1 : Int) := by omega
                have HDD : Hid (d - 1 = d1) := (by omega : d - 1 = d1)
                have HC : Hid (Calls Tryz.prog 23 #[pvv u, .int .i64 d1] wr fun e w' => ∃ u, e = .returned (pvv u) ∧ Pd.Lay (fun b => wr.heap.size ≤ b) (Pd.cut k d1) w' u ∧ Ex wr w') := HIH.out k HK.out u wr d1 hLk (HRK.out k HK.out) (by omega)
                have hlen4 : ((l.take j).map fun x => Pd.cut x (d - 1)).length + 1 ≤ 1000 := by simp; omega
                have hKD : d - 1 = d1 := by omega
                subst hpp
                clear hLr hLk hk hbg hlt hl4 hd0 hd1 hjd
                go_wp2_with fail
                go_at_call 23
                refine Calls.mono HC.out ?_
                rintro e w3 ⟨u3, rfl, hL3, hx3⟩
                obtain ⟨w4, hw4⟩ : ∃ w4, w3.alloc (pb u3) = w4 := ⟨_, rfl⟩
                have hX34 : Ex w3 w4 := by rw [← hw4]; exact (Below.refl _ _).alloc (Nat.le_refl _) _
                have hX4 : Ex wr w4 := hx3.trans hX34
                have HX4 : Hid (Ex w w4) := (HXq.out.trans hX4 : Ex w w4)
                have HOB : Hid (∀ g, u8.ownBlock = some g → w2.heap.size ≤ g ∧ g < wr.heap.size) := HQ.out.lt
                have HR4 : Hid (RdW 7 pc w4 (some ⟨w3.heap.size, 0, none⟩) 1 [u3]) := (by rw [← hw4]; exact RdW.laid pc_len w3 [u3] (by simp) : RdW 7 pc w4 _ 1 [u3])
                have HL4 : Hid (Pd.Lays (fun c => u8.ownBlock ≠ some c ∧ w.heap.size + 2 ≤ c) w4 [u3] [Pd.cut k (d - 1)]) := (by
                  rw [HDD.out]
                  exact (Pd.Lays.one (Pd.Lay.below _ hL3 hX34)).mono fun c hc => ⟨fun e => by have := (HOB.out c e).2; omega, by have h1 := HSq.out; have h2 := HS2.out; omega⟩ : Pd.Lays _ w4 [u3] _)
                have HQ4 : Hid (Pd.OwnQ (fun b => w.heap.size + 2 ≤ b) w4 w2.heap.size u8 ((l.take j).map fun x => Pd.cut x (d - 1))) := (HQ.out.later hX4 : Pd.OwnQ _ w4 _ _ _)
                have HP4 : Hid (PAt w4 w.heap.size ⟨vk, colx, vn, vm, sx, (a9, L9, c9), some ⟨b, off, none⟩, l.length, cap⟩) := (HPq.out.below hX4 : PAt w4 _ _)
                have HZ4 : Hid (PAt w4 (w.heap.size + 1) PV.zero) := (HZq.out.below hX4 : PAt w4 _ _)
                have HR4s : Hid (Rd st w4 a9 c9 S9) := (HRq.out.below hX4 : Rd st w4 _ _ _)
                have HS4 : Hid (w2.heap.size ≤ w4.heap.size) := (Nat.le_trans HSq.out hX4.size : w2.heap.size ≤ w4.heap.size)
                have hstep2 : ∀ v9 w9, Pd.OwnQ (fun b => w.heap.size + 2 ≤ b) w9 w2.heap.size v9 (((l.take j).map fun x => Pd.cut x (d - 1)) ++ [Pd.cut k (d - 1)]) → w4.grownBy w9 u8.ownBlock → Hid (Pd.OwnQ (fun b => w.heap.size + 2 ≤ b) w9 w2.heap.size v9 ((l.take (j + 1)).map fun x => Pd.cut x (d - 1))) ∧ Hid (PAt w9 w.heap.size ⟨vk, colx, vn, vm, sx, (a9, L9, c9), some ⟨b, off, none⟩, l.length, cap⟩) ∧ Hid (PAt w9 (w.heap.size + 1) PV.zero) ∧ Hid (Rd st w9 a9 c9 S9) ∧ Hid (w2.heap.size ≤ w9.heap.size) ∧ Hid (Ex w w9) := by
                  intro v9 w9 ho9 hg9
                  have hne : ∀ g, g < w2.heap.size → u8.ownBlock ≠ some g := fun g hg e => by have := (HOB.out g e).1; omega
                  have h2 := HS2.out
                  refine ⟨by rw [HNX.out]; exact ho9, HP4.out.far hg9 (hne _ (by omega)), HZ4.out.far hg9 (hne _ (by omega)), rd_far HR4s.out hg9 (fun _ c o e => hne _ (HSB.out c o e).2), Nat.le_trans HS4.out hg9.size, Below.grown HX4.out hg9 HX4.out.size (fun g hg => by have := (HOB.out g hg).1; omega)⟩
                clear hL3 hx3 hX34 hX4 HC c6 e0 e1 e2 e3 e4 e5 e6 hKD
                simp only [pvv, sv]
                go_wp2_with (at_builtin; refine Pd.wpList_append_Q rfl (.tmp 68) (.tmp 77) rfl w2.heap.size u8 _ rfl HQ4.out (some ⟨w3.heap.size, 0, none⟩) 1 1 [u3] [Pd.cut k (d - 1)] rfl rfl HR4.out HL4.out (by simp only [List.length_cons, List.length_nil]; omega) HS4.out ?_; intro v9 w9 ho9 hg9 hat9; obtain ⟨HO9, HP9, HZ9, HR9, HS9', HX9⟩ := hstep2 v9 w9 ho9 hg9; clear ho9 hg9 hat9)
                go_roundw
                case rel => exact ⟨j + 1, by omega, by have := HJ4.out; omega, .inr (by have := HD1.out; omega), by go_num, HO9, HP9, HZ9, HR9, HS9', HX9⟩
                case measure => simp [intOf]; omega
              · have HKE : Hid (((l.take j).map fun x => Pd.cut x (d - 1)) = if d = 0 then [] else (l.take 4).map fun x => Pd.cut x (d - 1)) := (by
                  by_cases hd0 : d = 0
                  · have : j = 0 := by omega
                    rw [if_pos hd0, this]
                    rfl
                  · rw [if_neg hd0]
                    by_cases h4 : j = 4
                    · rw [h4]
                    · rw [List.take_of_length_le (by omega), List.take_of_length_le (l := l) (i := 4) (by omega)] : ((l.take j).map fun x => Pd.cut x (d - 1)) = _)
                obtain ⟨K9, hK9⟩ : ∃ K9, (if d = 0 then [] else (l.take 4).map fun x => Pd.cut x (d - 1)) = K9 := ⟨_, rfl⟩
                have HK9 : Hid ((if d = 0 then [] else (l.take 4).map fun x => Pd.cut x (d - 1)) = K9) := hK9
                have hQr : Pd.OwnQ (fun b => w.heap.size + 2 ≤ b) wr w2.heap.size u8 K9 := by rw [← hK9, ← HKE.out]; exact HQ.out
                have hobq := hQr.lt
                obtain ⟨ka, kc, kvs, rfl, hRk, hLk⟩ := hQr.rd
                obtain ⟨N9, hN9⟩ : ∃ N9, K9.length = N9 := ⟨_, rfl⟩
                have HN9 : Hid (K9.length = N9) := hN9
                rw [hN9] at hobq ⊢
                obtain ⟨w5, hw5⟩ : ∃ w5, wr.setCell ⟨w.heap.size, 6, none⟩ (.slice ka N9 kc) = w5 := ⟨_, rfl⟩
                have hKB : ∀ g off, ka = some ⟨g, off, none⟩ → w.heap.size + 2 ≤ g := fun g off e => by have h1 := (hobq g (by rw [e]; rfl)).1; have h2 := HS2.out; omega
                have hP5 : PAt w5 w.heap.size ⟨vk, colx, vn, vm, sx, (a9, L9, c9), ka, N9, kc⟩ := by rw [← hw5]; exact HPq.out.set rfl
                have HZ5 : Hid (PAt w5 (w.heap.size + 1) PV.zero) := (by rw [← hw5]; exact HZq.out.other (by omega) : PAt w5 _ _)
                have HX5 : Hid (Ex w w5) := (by rw [← hw5]; exact Below.setCell HXq.out (Nat.le_refl _) _ : Ex w w5)
                have HR5 : Hid (Rd st w5 a9 c9 S9) := (by rw [← hw5]; exact rd_far HRq.out (grown_set1 _ _ _ _) (fun _ b off e => by have := (HSB.out b off e).1; simp; omega) : Rd st w5 a9 c9 S9)
                have HRK5 : Hid (RdW 7 pc w5 ka kc kvs) := (by rw [← hw5]; exact hRk.far (grown_set1 _ _ _ _) (fun _ b off e => by have := hKB b off e; simp; omega) : RdW 7 pc w5 ka kc kvs)
                have HLK5 : Hid (Pd.Lays (fun b => w.heap.size + 2 ≤ b) w5 kvs K9) := (by rw [← hw5]; exact hLk.far (row := some w.heap.size) (fun b hb e => by simp at e; omega) (grown_set1 _ _ _ _) : Pd.Lays _ w5 kvs K9)
                have HKB : Hid (∀ g off, ka = some ⟨g, off, none⟩ → w.heap.size + 2 ≤ g) := hKB
                have HSL : Hid (K9.length = N9) := hN9
                have f6 := HPq.out.fro.2.2.2.2.2.2
                obtain ⟨y0, y1, y2, y3, y4, y5, y6⟩ := hP5.all
                obtain ⟨z0, z1, z2, z3, z4, z5, z6⟩ := HZ5.out.fro
                obtain ⟨x0, x1, x2, x3, x4, x5, x6⟩ := HZ5.out.all
                simp only at y0 y1 y2 y3 y4 y5 y6
                have hC0 : ¬ (j < l.length ∧ j < 4 ∧ 0 < d) := hlt
                have ddj : ¬ (j : Int) < (l.length : Int) ∨ ((j : Int) < (l.length : Int) ∧ ¬ (j : Int) < 4) ∨ ((j : Int) < (l.length : Int) ∧ (j : Int) < 4 ∧ ¬ (0 : Int) < (d : Int)) := by
                  by_cases h1 : j < l.length
                  · by_cases h2 : j < 4
                    · exact .inr (.inr ⟨by omega, by omega, by omega⟩)
                    · exact .inr (.inl ⟨by omega, by omega⟩)
                  · exact .inl (by omega)
                clear hQr hobq hRk hLk hP5 hKB hN9 hK9 hlt hC0 hjd
                rcases ddj with ddj | ⟨ddj, ddk⟩ | ⟨ddj, ddk, ddl⟩
                all_goals
                  go_wp2_with fail
                  have hP9 := HZ5.out.store ⟨vk, colx, vn, vm, sx, (a9, L9, c9), ka, N9, kc⟩
                  have hX9 := Below.pset HX5.out (Nat.le_succ _) ⟨vk, colx, vn, vm, sx, (a9, L9, c9), ka, N9, kc⟩
                  refine bodyPost_ret (v := pvv ⟨vk, colx, vn, vm, sx, (a9, L9, c9), ka, N9, kc⟩) (res_pred Tryz.results23 rfl hP9) rfl ⟨_, rfl, ?_, hX9⟩
                  rw [Pd.cut_mk, HK9.out, Pd.lay_mk]
                  have hgr := grown_pset w5 (w.heap.size + 1) ⟨vk, colx, vn, vm, sx, (a9, L9, c9), ka, N9, kc⟩
                  refine ⟨⟨⟨rfl, HCC.out, rfl, rfl, HSS.out⟩, ?_, ?_, fun _ b off e => by have := (HSB.out b off e).1; omega⟩, HSL.out.symm, fun _ b off e => by have := HKB.out b off e; omega, kvs, ?_, ?_⟩
                  · show L9 = ((set.take 9).map fun s => s.take 41).length
                    rw [HS9.out, HL9.out]
                  · show Rd st _ a9 c9 ((set.take 9).map fun s => s.take 41)
                    rw [HS9.out]
                    exact rd_far HR5.out hgr (fun _ b off e => by have := (HSB.out b off e).1; simp; omega)
                  · exact HRK5.out.far hgr (fun _ b off e => by have := HKB.out b off e; simp; omega)
                  · exact (HLK5.out.far (row := some (w.heap.size + 1)) (fun b hb e => by simp at e; omega) hgr).mono fun b hb => by omega
end Go.Proofs.YtnmonoafjijfhaaGreat
namespace Go.Proofs.YtnmonoafjijfhaaGreat
open Go.RowKit
set_option linter.unusedVariables false
set_option linter.unusedSimpArgs false
set_option maxHeartbeats 4000000 in
set_option maxRecDepth 100000 in
theorem rcell_is (v : RV) (r : Rw) (s : List UInt8) (w : World) (h : RvOk w v r) (c : Ce) (hc : Rw.cell r.c s = c) : Calls Tryz.prog 60 #[rvv v, .string (str s)] w fun e w' => e = .returned (cv c) ∧ Ex w w' := by
  obtain ⟨vt, vq, p, n, cap⟩ := v
  obtain ⟨rfl, rfl, hn, hB⟩ := h
  simp only at hn hB
  subst hn
  have h1 := hB.1
  have h2 := hB.2.1
  unfold maxLen at h2
  obtain ⟨W, hW⟩ : ∃ W, W = (w.alloc (rb ⟨r.t, r.q, p, r.c.length, cap⟩)).alloc ecb0 := ⟨_, rfl⟩
  have HX : Hid (Ex w W) := (by rw [hW]; exact ((Below.refl _ _).alloc (Nat.le_refl _) _).alloc (by simp) _ : Ex w W)
  have HB : Hid (RdC W p cap r.c) := hB.below HX.out
  have HL : Hid (LAt W w.heap.size ⟨r.t, r.q, p, r.c.length, cap⟩) := (by rw [hW]; exact (LAt.new w _).alloc _ : LAt W w.heap.size ⟨r.t, r.q, p, r.c.length, cap⟩)
  have HZ : Hid (EAt W (w.heap.size + 1) Rw.none_) := (by rw [hW]; exact EAt.newat (w.alloc (rb ⟨r.t, r.q, p, r.c.length, cap⟩)) (w.heap.size + 1) Rw.none_ (by simp) : EAt W (w.heap.size + 1) Rw.none_)
  have HW : Hid (W = (w.alloc (rb ⟨r.t, r.q, p, r.c.length, cap⟩)).alloc ecb0) := hW
  have HC : Hid (Rw.cell r.c s = c) := hc
  have zs := str_toList s
  clear hB hW hc
  unfold rvv
  simp only [sv]
  go_enter Tryz.func60, Tryz.ntmps60
  go_wp2_with fail
  rw [← HW.out]
  obtain ⟨n0, n1, n2⟩ := HL.out.all
  obtain ⟨z0, z1, z2, z3⟩ := HZ.out.all
  obtain ⟨f0, f1, f2, f3⟩ := HZ.out.fro
  go_loopw [5] (fun iv wr => ∃ i : Nat, i ≤ r.c.length ∧ iv = .int .i64 i ∧ Hid (∀ d ∈ r.c.take i, d.col ≠ s) ∧ wr = W) (fun iv wr => r.c.length - (intOf iv).toNat)
  case atStart => exact ⟨0, by omega, rfl, (by simp : ∀ d ∈ r.c.take 0, d.col ≠ s), rfl⟩
  case round =>
    obtain ⟨i, hi, rfl, HN, hwr⟩ := hrel
    have hwr := hwr.symm
    subst hwr
    by_cases hlt : i < r.c.length
    · have hti : (i : Int) < (r.c.length : Int) := by omega
      obtain ⟨b, off, rfl, e0, e1, e2, e3⟩ := RdC.four HB.out hlt
      obtain ⟨d, hd⟩ : ∃ d, r.c[i] = d := ⟨_, rfl⟩
      rw [hd] at e0 e1 e2 e3
      have hsp : r.c = r.c.take i ++ d :: r.c.drop (i + 1) := by rw [← hd, ← List.drop_eq_getElem_cons hlt, List.take_append_drop]
      have HSP : Hid (r.c = r.c.take i ++ d :: r.c.drop (i + 1)) := hsp
      have hnx : r.c.take (i + 1) = r.c.take i ++ [d] := by rw [List.take_add_one, List.getElem?_eq_getElem hlt, hd]; rfl
      have HNX : Hid (r.c.take (i + 1) = r.c.take i ++ [d]) := hnx
      have zd := str_toList d.col
      clear hd hsp hnx
      by_cases hds : d.col = s
      · have td : (d.col == s) = true := by simp [hds]
        have HF : Hid (c = d) := (by rw [← HC.out, HSP.out]; exact Rw.cell_skip HN.out hds : c = d)
        clear hds
        go_wp2_with fail
        have hL9 := EAt.store HZ.out d
        have hX9 := Below.eset HX.out (Nat.le_succ _) d
        refine bodyPost_ret (v := cv d) (res_cell Tryz.results60 rfl hL9) rfl ⟨by rw [HF.out], hX9⟩
      · have td : (d.col == s) = false := by simp [hds]
        have HN2 : Hid (∀ e ∈ r.c.take (i + 1), e.col ≠ s) := (by
          intro e he
          rw [HNX.out] at he
          rcases List.mem_append.1 he with h | h
          · exact HN.out e h
          · rw [List.mem_singleton] at h; subst h; exact hds : ∀ e ∈ r.c.take (i + 1), e.col ≠ s)
        go_wp2_with fail
        go_roundw
        case rel => exact ⟨i + 1, by omega, by go_num, HN2, by simp⟩
        case measure => simp [intOf]; omega
    · have hti : ¬ (i : Int) < (r.c.length : Int) := by omega
      have HF : Hid (c = Rw.none_) := (by rw [← HC.out]; have h := HN.out; rw [List.take_of_length_le (by omega)] at h; exact Rw.cell_out h : c = Rw.none_)
      go_wp2_with fail
      have hL9 := EAt.store HZ.out Rw.none_
      have hX9 := Below.eset HX.out (Nat.le_succ _) Rw.none_
      refine bodyPost_ret (v := cv Rw.none_) (res_cell Tryz.results60 rfl hL9) rfl ⟨by rw [HF.out], hX9⟩
end Go.Proofs.YtnmonoafjijfhaaGreat
namespace Go.Proofs.YtnmonoafjijfhaaGreat
open Go.RowKit Go.Deep Go.WideShapes Go.ChangeShapes
set_option linter.unusedVariables false
section
variable {H : Type} {enc : TypeId × Value → H} {w : World} {base : Nat} {held : Bool} {spare : Nat → Bool}
/-- A slice of texts. -/
theorem open_texts {fuel : Nat} {cs : List Value} {x : DataW H × List MemPlace} (h : DataW.trod enc Tryz.prog w base spare held fuel 35 cs = some x) :
    ∃ (a : Option Addr) (cap : Nat) (l : List (List UInt8)), cs = [.slice a l.length cap] ∧ Rd st w a cap l ∧ ∀ s ∈ l, s.length ≤ maxLen := by
  rcases open_slice1 Tryz.underlying35 (by kernel_rfl) h with ⟨h0, _⟩ | ⟨a, len, cap, m, n, V, D, Pl, rfl, hb, hl, hm, hmm, rfl, hx⟩
  · exact ⟨none, 0, [], h0, Rd.nil w, by simp⟩
  have hlm : len ≤ m := by rw [hmm]; split <;> omega
  have each : ∀ i, i < len → ∃ s : List UInt8, w.cell? (a.add i) = some (.string (str s)) ∧ s.length ≤ maxLen := by
    intro i hi
    obtain ⟨h1, h2⟩ := hx i (by omega)
    obtain ⟨s0, e0, _, m0⟩ := DataW.trod_string Tryz.underlying9 h2
    simp at e0
    obtain ⟨t0, rfl⟩ := str_of s0
    exact ⟨t0, by rw [h1, e0], str_len m0⟩
  obtain ⟨l, hll, hql⟩ := choose_list each
  refine ⟨some a, cap, l, by rw [hll], ⟨by omega, hm, by simp, fun i p hp => ?_⟩, fun p hp => ?_⟩
  · obtain ⟨h1, _⟩ := hql i p hp
    obtain ⟨b, off, spot⟩ := a
    have hspot : spot = none := by
      have hl0 : 0 < l.length := by
        cases l with
        | nil => simp at hp
        | cons _ _ => simp
      obtain ⟨h3, _⟩ := hql 0 _ (List.getElem?_eq_getElem hl0)
      have := World.cell?_spot h3
      simpa [Addr.add] using this
    subst hspot
    refine ⟨b, off, rfl, ?_⟩
    rw [add_none] at h1
    exact h1
  · obtain ⟨i, hi⟩ := List.getElem?_of_mem hp
    exact (hql i p hi).2
set_option maxRecDepth 100000 in
/-- Seven places that read as a predicate. -/
theorem open_pred7 : ∀ (fuel : Nat) (cs : List Value) (x : DataW H × List MemPlace), DataW.trod enc Tryz.prog w base spare held fuel 54 cs = some x →
    ∃ (v : PV) (p : Pr), cs = pc v ∧ Pd.Lay (fun _ => True) p w v ∧ Pd.Raw p := by
  intro fuel
  induction fuel using Nat.strongRecOn with
  | _ fuel ih =>
    intro cs x h
    obtain ⟨xs, n, hn, _, hlen, hl, hf⟩ := DataW.trod_struct Tryz.underlying54 h
    rw [show Tryz.prog.cellsOf 54 = 7 from by kernel_rfl] at hlen
    match xs, hl, cs, hlen with
    | [y0, y1, y2, y3, y4, y5, y6], _, [v0, v1, v2, v3, v4, v5, v6], _ =>
      have c9 : Tryz.prog.cellsOf 9 = 1 := by kernel_rfl
      have c3 : Tryz.prog.cellsOf 3 = 1 := by kernel_rfl
      have c2 : Tryz.prog.cellsOf 2 = 1 := by kernel_rfl
      have c22 : Tryz.prog.cellsOf 35 = 1 := by kernel_rfl
      have c23 : Tryz.prog.cellsOf 52 = 1 := by kernel_rfl
      have g0 := hf 0 _ rfl
      have g1 := hf 1 _ rfl
      have g2 := hf 2 _ rfl
      have g3 := hf 3 _ rfl
      have g4 := hf 4 _ rfl
      have g5 := hf 5 _ rfl
      have g6 := hf 6 _ rfl
      simp [c9, c3, c2, c22, c23] at g0 g1 g2 g3 g4 g5 g6
      obtain ⟨a0, e0, _, m0⟩ := DataW.trod_int Tryz.underlying3 g0
      obtain ⟨s1, e1, _, m1⟩ := DataW.trod_string Tryz.underlying9 g1
      obtain ⟨a2, e2, _, m2⟩ := DataW.trod_int Tryz.underlying2 g2
      obtain ⟨a3, e3, _, m3⟩ := DataW.trod_int Tryz.underlying2 g3
      obtain ⟨s4, e4, _, m4⟩ := DataW.trod_string Tryz.underlying9 g4
      obtain ⟨sa, sc, set, e5, hR, hset⟩ := open_texts g5
      simp at e0 e1 e2 e3 e4 e5
      obtain ⟨t1, rfl⟩ := str_of s1
      obtain ⟨t4, rfl⟩ := str_of s4
      subst e0 e1 e2 e3 e4 e5
      have hraw : HdRaw ⟨a0, t1, a2, a3, t4, set⟩ := ⟨wf64 m0, wf64 m2, wf64 m3, str_len m1, str_len m4, hset⟩
      have key : ∃ (ka : Option Addr) (kc : Nat) (vs : List PV) (l : List Pr), v6 = .slice ka l.length kc ∧ RdW 7 pc w ka kc vs ∧ Pd.Lays (fun _ => True) w vs l ∧ ∀ q ∈ l, Pd.Raw q := by
        rcases DataW.trod_slice Tryz.underlying52 g6 with ⟨h0, _⟩ | ⟨a, len, cap, elems, rest, n', hn', h0, _, hb, hlc, hcm, hel, hall, _, _⟩
        · simp at h0
          exact ⟨none, 0, [], [], h0, RdW.nil w, Pd.Lays.nil _ _, by simp⟩
        · simp at h0
          rw [show Tryz.prog.cellsOf 54 = 7 from by kernel_rfl] at hall
          have each : ∀ i, i < len → ∃ vq : PV × Pr, (∀ j u, (pc vq.1)[j]? = some u → w.cell? (a.add (i * 7 + j)) = some u) ∧ Pd.Lay (fun _ => True) vq.2 w vq.1 ∧ Pd.Raw vq.2 := by
            intro i hi
            have h1 := hall i hi
            rw [List.getElem?_eq_getElem (by omega)] at h1
            obtain ⟨cs', hc, ht⟩ := Option.bind_eq_some_iff.1 h1
            obtain ⟨_, hlen', hcell⟩ := World.cells?_some hc
            obtain ⟨v, q, rfl, hL, hq⟩ := ih n' (by omega) cs' _ ht
            refine ⟨(v, q), fun j u hu => ?_, hL, hq⟩
            have hj : j < 7 := (List.getElem?_eq_some_iff.1 hu).1
            have e := hcell j (by omega)
            rw [add_add] at e
            rw [e]; exact hu
          obtain ⟨l, hll, hql⟩ := choose_list each
          refine ⟨some a, cap, l.map (·.1), l.map (·.2), by rw [List.length_map, hll]; exact h0, ⟨by rw [List.length_map]; omega, hcm, by simp, fun i p hp => ?_⟩, ⟨by simp, fun i v r hv hr => ?_⟩, fun r hr => ?_⟩
          · rw [List.getElem?_map] at hp
            obtain ⟨y, hy, rfl⟩ := Option.map_eq_some_iff.1 hp
            obtain ⟨h1, _⟩ := hql i y hy
            obtain ⟨b, off, spot⟩ := a
            have hspot : spot = none := by
              have hl0 : 0 < l.length := by
                cases l with
                | nil => simp at hy
                | cons _ _ => simp
              obtain ⟨h3, _⟩ := hql 0 _ (List.getElem?_eq_getElem hl0)
              have := World.cell?_spot (h3 0 _ rfl)
              simpa [Addr.add] using this
            subst hspot
            refine ⟨b, off, rfl, fun j u hu => ?_⟩
            have := h1 j u hu
            rw [add_none, ← Nat.add_assoc] at this
            exact this
          · rw [List.getElem?_map] at hv hr
            obtain ⟨y, hy, rfl⟩ := Option.map_eq_some_iff.1 hv
            rw [hy] at hr
            simp at hr
            subst hr
            exact (hql i y hy).2.1
          · obtain ⟨y, hy, rfl⟩ := List.mem_map.1 hr
            obtain ⟨i, hi⟩ := List.getElem?_of_mem hy
            exact (hql i y hi).2.2
      obtain ⟨ka, kc, vs, l, rfl, hRk, hLk, hrk⟩ := key
      refine ⟨⟨a0, t1, a2, a3, t4, (sa, set.length, sc), ka, l.length, kc⟩, Pr.mk' ⟨a0, t1, a2, a3, t4, set⟩ l, rfl, ?_, ?_⟩
      · rw [Pd.lay_mk]
        exact ⟨⟨⟨rfl, rfl, rfl, rfl, rfl⟩, rfl, hR, fun _ _ _ _ => trivial⟩, rfl, fun _ _ _ _ => trivial, vs, hRk, hLk⟩
      · rw [Pd.raw_mk]
        exact ⟨hraw, hrk⟩
end
theorem array7 {α : Type} {a : Array α} (h : a.size = 7) : ∃ b c d e f g i, a = #[b, c, d, e, f, g, i] := by
  obtain ⟨l⟩ := a
  match l, h with
  | [b, c, d, e, f, g, i], _ => exact ⟨b, c, d, e, f, g, i, rfl⟩
set_option maxRecDepth 100000 in
theorem open_pred {H : Type} {enc : TypeId × Value → H} {w : World} {r : Reach} {b0 : Nat} {v : Value} {d : DataW H} {p : List MemPlace} (hv : Value.okWide Tryz.prog w r b0 54 v) (h : DataW.Trod enc Tryz.prog w 0 (fun _ => true) true 54 v d p) :
    ∃ (u : PV) (x : Pr), v = pvv u ∧ Pd.Lay (fun _ => True) x w u ∧ Pd.Raw x := by
  obtain ⟨cs, rfl, hs⟩ := okWide_struct Tryz.underlying54 hv
  rw [show Tryz.prog.cellsOf 54 = 7 from by kernel_rfl] at hs
  obtain ⟨c0, c1, c2, c3, c4, c5, c6, rfl⟩ := array7 hs
  obtain ⟨fuel, hf⟩ := h
  have hf' : DataW.trod enc Tryz.prog w 0 (fun _ => true) true fuel 54 [c0, c1, c2, c3, c4, c5, c6] = some (d, p) := hf
  obtain ⟨u, x, hu, h1, h2⟩ := open_pred7 _ _ _ hf'
  refine ⟨u, x, ?_, h1, h2⟩
  simp only [pc, List.cons.injEq, and_true] at hu
  obtain ⟨rfl, rfl, rfl, rfl, rfl, rfl, rfl⟩ := hu
  rfl
end Go.Proofs.YtnmonoafjijfhaaGreat
namespace Go.Proofs.YtnmonoafjijfhaaGreat
open Go.RowKit
set_option linter.unusedVariables false
set_option linter.unusedSimpArgs false
namespace Pd
theorem fit_of {p : Pr} (h1 : deep p ≤ 50) (h2 : size p ≤ 5000) : fit p 50 5000 = true := by unfold fit; simp [h1, h2]
end Pd
theorem ev_is (p : Pr) (r : Rw) (v : PV) (rv : RV) (w : World) (hL : Pd.Lay (fun _ => True) p w v) (hF : Pd.Fine p) (hr : RvOk w rv r) (hrs : ∀ c ∈ r.c, c.s.length ≤ maxLen) (hf : Pd.fit p 50 5000 = true) (o : Bool) (ho : Pd.ev r p = o) :
    Calls Tryz.prog 26 #[pvv v, rvv rv] w fun e w' => e = .returned (.bool o) ∧ Ex w w' := eval_is p r v rv w hL hF hr hrs o (by rw [hf, ho, Bool.true_and])
/-- A new variable for a predicate. -/
def IsNew (base : Nat) (v : Value) (w : World) : Prop := ∃ g, v = .pointer (some ⟨g, 0, none⟩) ∧ base ≤ g ∧ PAt w g PV.zero
theorem IsNew.stands (base : Nat) : ∀ v w w', IsNew base v w → Ex w w' → IsNew base v w' := by
  rintro v w w' ⟨g, rfl, h0, h1⟩ hx
  exact ⟨g, rfl, h0, h1.below hx⟩
end Go.Proofs.YtnmonoafjijfhaaGreat
