/-
  Plain and memory: what the document's own Encode of a column gathers in its first loop: marks, numbers, texts, three lists of its own, beside the variable that holds the cell. The document's own Encode of a column.
-/
import Derived.Test.YtnmonoafjijfhaaGreatM49
import Derived.Test.YtnmonoafjijfhaaGreatM15
import Derived.Test.YtnmonoafjijfhaaGreatM21
import Derived.Test.YtnmonoafjijfhaaGreatM33
import Derived.Test.YtnmonoafjijfhaaGreatM16
import Derived.Deep.Cut
import Derived.Deep.DeepCutAuto
namespace Go.Proofs.YtnmonoafjijfhaaGreat
open Go.RowKit
set_option linter.unusedVariables false
set_option linter.unusedSimpArgs false
namespace Ck
theorem vals_take {l : List Ce} {i : Nat} (h : i < l.length) : vals (l.take (i + 1)) = if l[i].k = 0 then vals (l.take i) else vals (l.take i) ++ [l[i]] := by
  rw [List.take_succ_eq_append_getElem h]
  unfold vals
  rw [List.filter_append]
  by_cases h0 : l[i].k = 0 <;> simp [h0]
theorem nums_take {l : List Ce} {i : Nat} (h : i < l.length) : nums (l.take (i + 1)) = if l[i].k = 0 then nums (l.take i) else nums (l.take i) ++ [l[i].n] := by
  unfold nums
  rw [vals_take h]
  split <;> simp
theorem txts_take {l : List Ce} {i : Nat} (h : i < l.length) : txts (l.take (i + 1)) = if l[i].k = 0 then txts (l.take i) else txts (l.take i) ++ [l[i].s] := by
  unfold txts
  rw [vals_take h]
  split <;> simp
theorem nums_len (l : List Ce) : (nums l).length ≤ l.length := by unfold nums; rw [List.length_map]; exact vals_len l
end Ck
/-- Three lists that a call owns, in blocks of their own. -/
structure Tri (w0 : World) (base : Nat) (W : World) (a b c : Value) (M : List Nat) (N : List Int) (T : List (List UInt8)) : Prop where
  m : OwnR 69 n64 W base a M
  n : OwnR 2 z64 W base b N
  t : OwnR 9 st W base c T
  ab : Aside a b
  ac : Aside a c
  bc : Aside b c
  bel : Below base w0 W
  sz : base ≤ W.heap.size
/-- A cell's variable beside them. -/
structure VarE (W : World) (g : Nat) (d : Ce) (a b c : Value) : Prop where
  e : EAt W g d
  na : a.ownBlock ≠ some g
  nb : b.ownBlock ≠ some g
  nc : c.ownBlock ≠ some g
theorem aside_at {W : World} {base size n : Nat} {e : TypeId} {v : Value} {xs : List Value} (h : W.ownsRow base e size v n xs) : v.ownBlock ≠ some W.heap.size := fun hh => by have := (World.ownsRow.lt h _ hh).2; omega
section
variable {w0 : World} {base : Nat} {W W' : World} {a b c a' : Value} {M : List Nat} {N : List Int} {T : List (List UInt8)} {g : Nat} {d : Ce} {o : Obj}
theorem Tri.later (h : Tri w0 base W a b c M N T) (hx : Ex W W') : Tri w0 base W' a b c M N T :=
  ⟨h.m.later hx, h.n.later hx, h.t.later hx, h.ab, h.ac, h.bc, Below.grown h.bel (hx.grownBy none) h.sz (fun k hk => by simp at hk), Nat.le_trans h.sz hx.size⟩
theorem Tri.var (h : Tri w0 base W a b c M N T) (d : Ce) : Tri w0 base (W.alloc (cb d)) a b c M N T ∧ VarE (W.alloc (cb d)) W.heap.size d a b c :=
  ⟨h.later ((Below.refl _ _).alloc (Nat.le_refl _) _), EAt.new W d, aside_at h.m, aside_at h.n, aside_at h.t⟩
theorem far_size {W W' : World} {o : Obj} {g : Nat} {a' : Value} {x : Option Nat} (hat : a'.ownBlock = x ∨ a'.ownBlock = some (W.alloc o).heap.size) (hx : x ≠ some g) (hg : g < W.heap.size) : a'.ownBlock ≠ some g := by
  rcases hat with h | h
  · rw [h]; exact hx
  · rw [h]; simp; omega
theorem Tri.push6 (h : Tri w0 base W a b c M N T) (v : VarE W g d a b c) {m : Nat} (hO : OwnR 69 n64 W' base a' (M ++ [m])) (hg : (W.alloc o).grownBy W' a.ownBlock) (hat : a'.ownBlock = a.ownBlock ∨ a'.ownBlock = some (W.alloc o).heap.size) : Tri w0 base W' a' b c (M ++ [m]) N T ∧ VarE W' g d a' b c := by
  have hs := hg.size
  have hgl := v.e.lt
  refine ⟨⟨hO, OwnR.far (OwnR.alloc h.n o) hg h.ab, OwnR.far (OwnR.alloc h.t o) hg h.ac, Aside.grown h.ab hat (OwnR.alloc h.n o), Aside.grown h.ac hat (OwnR.alloc h.t o), h.bc, Below.grown (Below.alloc h.bel h.sz o) hg (by have := h.sz; simp; omega) (fun k hk => (World.ownsRow.lt h.m k hk).1), ?_⟩, (v.e.alloc o).farG hg v.na, far_size (W' := W') hat v.na hgl, v.nb, v.nc⟩
  have := h.sz
  simp at hs
  omega
theorem Tri.push7 (h : Tri w0 base W a b c M N T) (v : VarE W g d a b c) {m : Int} (hO : OwnR 2 z64 W' base a' (N ++ [m])) (hg : (W.alloc o).grownBy W' b.ownBlock) (hat : a'.ownBlock = b.ownBlock ∨ a'.ownBlock = some (W.alloc o).heap.size) : Tri w0 base W' a a' c M (N ++ [m]) T ∧ VarE W' g d a a' c := by
  have hs := hg.size
  have hgl := v.e.lt
  refine ⟨⟨OwnR.far (OwnR.alloc h.m o) hg h.ab.symm, hO, OwnR.far (OwnR.alloc h.t o) hg h.bc, (Aside.grown h.ab.symm hat (OwnR.alloc h.m o)).symm, h.ac, Aside.grown h.bc hat (OwnR.alloc h.t o), Below.grown (Below.alloc h.bel h.sz o) hg (by have := h.sz; simp; omega) (fun k hk => (World.ownsRow.lt h.n k hk).1), ?_⟩, (v.e.alloc o).farG hg v.nb, v.na, far_size (W' := W') hat v.nb hgl, v.nc⟩
  have := h.sz
  simp at hs
  omega
theorem Tri.push8 (h : Tri w0 base W a b c M N T) (v : VarE W g d a b c) {m : List UInt8} (hO : OwnR 9 st W' base a' (T ++ [m])) (hg : (W.alloc o).grownBy W' c.ownBlock) (hat : a'.ownBlock = c.ownBlock ∨ a'.ownBlock = some (W.alloc o).heap.size) : Tri w0 base W' a b a' M N (T ++ [m]) ∧ VarE W' g d a b a' := by
  have hs := hg.size
  have hgl := v.e.lt
  refine ⟨⟨OwnR.far (OwnR.alloc h.m o) hg h.ac.symm, OwnR.far (OwnR.alloc h.n o) hg h.bc.symm, hO, h.ab, (Aside.grown h.ac.symm hat (OwnR.alloc h.m o)).symm, (Aside.grown h.bc.symm hat (OwnR.alloc h.n o)).symm, Below.grown (Below.alloc h.bel h.sz o) hg (by have := h.sz; simp; omega) (fun k hk => (World.ownsRow.lt h.t k hk).1), ?_⟩, (v.e.alloc o).farG hg v.nc, v.na, v.nb, far_size (W' := W') hat v.nc hgl⟩
  have := h.sz
  simp at hs
  omega
theorem Tri.none_ (w : World) : Tri w w.heap.size w (.slice none 0 0) (.slice none 0 0) (.slice none 0 0) [] [] [] :=
  ⟨World.ownsRow_nil _ _ _ _, World.ownsRow_nil _ _ _ _, World.ownsRow_nil _ _ _ _, Aside.nil _, Aside.nil _, Aside.nil _, Below.refl _ _, Nat.le_refl _⟩
end
end Go.Proofs.YtnmonoafjijfhaaGreat
namespace Go.Proofs.YtnmonoafjijfhaaGreat
open Go.RowKit
set_option linter.unusedVariables false
set_option linter.unusedSimpArgs false
theorem zs_get {P : List Nat} {i : Nat} (h : i < (zs P).length) (h2 : i < P.length) : (zs P)[i] = ((P[i] : Nat) : Int) := by simp [zs]
set_option maxHeartbeats 8000000 in
set_option maxRecDepth 100000 in
theorem rencode15_is (kind : Int) (a : Option Addr) (n cap : Nat) (l : List Ce) (w : World) (hn : n = l.length) (hB : RdC w a cap l) (h64 : ∀ c ∈ l, In64 c.n) (hsl : ∀ c ∈ l, c.s.length ≤ maxLen) (r : List UInt8) (e0 : Nat) (hr : Ck.encE kind l = (r, e0)) :
    Calls Tryz.prog 10 #[.int .i64 kind, .slice a n cap] w fun e w' => ∃ v, e = .returned (.tuple #[v, .int .i64 e0]) ∧ Own w' w.heap.size v r ∧ Ex w w' := by
  have HN : Hid (n = l.length) := hn
  have HB : Hid (RdC w a cap l) := hB
  have H64 : Hid (∀ c ∈ l, In64 c.n) := h64
  have HSl : Hid (∀ c ∈ l, c.s.length ≤ maxLen) := hsl
  have HR : Hid (Ck.encE kind l = (r, e0)) := hr
  have hcl : n ≤ cap := by have := hB.1; omega
  have hcm := hB.2.1
  unfold maxLen at hcm
  have hO0 : ∀ wx : World, Own wx w.heap.size (.slice none 0 0) [] := fun wx => ⟨by simp [cs], .inl ⟨rfl, rfl⟩⟩
  clear hB hn h64 hr hsl
  go_enter Tryz.func10, Tryz.ntmps10
  by_cases hk : kind ≠ 1 ∧ kind ≠ 2
  · obtain ⟨hk1, hk2⟩ := hk
    have t1 : (kind != 1) = true := by simp [bne, hk1]
    have t2 : (kind != 2) = true := by simp [bne, hk2]
    have hr := HR.out
    unfold Ck.encE at hr
    rw [if_pos ⟨hk1, hk2⟩] at hr
    simp only [Prod.mk.injEq] at hr
    obtain ⟨rfl, rfl⟩ := hr
    go_wp2_with fail
    go_ret2
    exact ⟨_, rfl, hO0 _, Ex.refl _⟩
  have hk12 : kind = 1 ∨ kind = 2 := by omega
  have HK : Hid (kind = 1 ∨ kind = 2) := hk12
  go_upto_region 1 with fail
  go_cut [30] (fun v wc => v = .bool false ∧ wc = w)
  case first =>
    rcases hk12 with rfl | rfl
    · go_wp2_with fail
      go_meet
      exact ⟨rfl, rfl⟩
    · go_wp2_with fail
      go_meet
      exact ⟨rfl, rfl⟩
  case rest =>
    obtain ⟨rfl, hwc⟩ := hcut
    subst hwc
    by_cases hn6 : 65536 < n
    · have t3 : (65536 : Int) < (n : Int) := by omega
      have hr := HR.out
      unfold Ck.encE at hr
      rw [if_neg hk, if_pos (by rw [← HN.out]; exact hn6)] at hr
      simp only [Prod.mk.injEq] at hr
      obtain ⟨rfl, rfl⟩ := hr
      clear hk hk12
      go_wp2_with fail
      go_ret2
      exact ⟨_, rfl, hO0 _, Ex.refl _⟩
    have t3 : ¬ (65536 : Int) < (n : Int) := by omega
    have hl6 : l.length ≤ 65536 := by rw [← HN.out]; omega
    have hn65 : n ≤ 65536 := by omega
    have hr2 := HR.out
    unfold Ck.encE at hr2
    rw [if_neg hk, if_neg (by omega)] at hr2
    have HR2 : Hid ((if l.all (Ck.fits kind) = true then (Ck.enc kind l, 0) else ([], 1)) = (r, e0)) := hr2
    clear hk hk12 hr2
    go_wp2_with fail
    go_loopw [6, 7, 8, 9, 10] (fun v6 v7 v8 iv _ wr => ∃ i : Nat, i ≤ n ∧ iv = .int .i64 (i : Int) ∧ Hid ((l.take i).all (Ck.fits kind) = true) ∧ Hid (Tri wc wc.heap.size wr v6 v7 v8 (Ck.marks (l.take i)) (Ck.nums (l.take i)) (Ck.txts (l.take i)))) (fun _ _ _ iv _ wr => n - (intOf iv).toNat)
    case atStart => exact ⟨0, by omega, rfl, (rfl : (l.take 0).all (Ck.fits kind) = true), Tri.none_ _⟩
    case round =>
      obtain ⟨i, hi, rfl, HA, HT⟩ := hrel
      by_cases hlt : i < n
      · have ti : (i : Int) < (n : Int) := by omega
        have hlt2 : i < l.length := by rw [← HN.out]; exact hlt
        have HX : Hid (Ex wc wr) := HT.out.bel
        obtain ⟨bq, off, rfl, e0', e1, e2, e3⟩ := RdC.four (HB.out.below HX.out) hlt2
        have hsm := HSl.out _ (List.getElem_mem hlt2)
        have h64d := H64.out _ (List.getElem_mem hlt2)
        have hmt := marks_take hlt2
        have hnt := Ck.nums_take hlt2
        have htt := Ck.txts_take hlt2
        obtain ⟨d, hd⟩ : ∃ d, l[i] = d := ⟨_, rfl⟩
        rw [hd] at e0' e1 e2 e3 hsm h64d hmt hnt htt
        have HMt : Hid (Ck.marks (l.take (i + 1)) = Ck.marks (l.take i) ++ [Ck.mark d]) := hmt
        have HNt : Hid (Ck.nums (l.take (i + 1)) = if d.k = 0 then Ck.nums (l.take i) else Ck.nums (l.take i) ++ [d.n]) := hnt
        have HTt : Hid (Ck.txts (l.take (i + 1)) = if d.k = 0 then Ck.txts (l.take i) else Ck.txts (l.take i) ++ [d.s]) := htt
        have hat := all_take (p := Ck.fits kind) hlt2
        rw [hd, HA.out, Bool.true_and] at hat
        have hno : Ck.fits kind d = false → l.all (Ck.fits kind) = false := fun h => all_no hlt2 (by rw [hd]; exact h)
        have HNo : Hid (Ck.fits kind d = false → l.all (Ck.fits kind) = false) := hno
        have HAt : Hid ((l.take (i + 1)).all (Ck.fits kind) = Ck.fits kind d) := hat
        obtain ⟨w1, hw1⟩ : ∃ w1, wr.alloc (cb d) = w1 := ⟨_, rfl⟩
        obtain ⟨hT1, hV1⟩ := HT.out.var d
        rw [hw1] at hT1 hV1
        have HT1 : Hid (Tri wc wc.heap.size w1 u6 u7 u8 (Ck.marks (l.take i)) (Ck.nums (l.take i)) (Ck.txts (l.take i))) := hT1
        have HV1 : Hid (VarE w1 wr.heap.size d u6 u7 u8) := hV1
        obtain ⟨g0, g1, g2, g3⟩ := hV1.e.all
        unfold maxLen at hsm
        have zs : (str d.s).size = d.s.length := str_size _
        obtain ⟨F, hF⟩ : ∃ F, Ck.fits kind d = F := ⟨_, rfl⟩
        have HF : Hid (Ck.fits kind d = F) := hF
        clear hd hmt hnt htt hat hno hT1 hV1 hF
        go_upto_region 12 with fail
        go_cut [63] (fun v wx => v = .bool (!F) ∧ wx = w1)
        case first =>
          obtain ⟨b1, hb1⟩ : ∃ b1, (d.k != 0) = b1 := ⟨_, rfl⟩
          obtain ⟨b2, hb2⟩ : ∃ b2, (d.k != kind) = b2 := ⟨_, rfl⟩
          obtain ⟨b3, hb3⟩ : ∃ b3, (d.k == 2) = b3 := ⟨_, rfl⟩
          obtain ⟨b4, hb4⟩ : ∃ b4, decide ((40 : Int) < (d.s.length : Int)) = b4 := ⟨_, rfl⟩
          have hfit : F = !(b1 && b2 || b3 && b4) := by
            rw [← HF.out, ← hb1, ← hb2, ← hb3, ← hb4]
            unfold Ck.fits
            congr 2
            · by_cases h0 : d.k = 0 <;> by_cases h1 : d.k = kind <;> simp [h0, h1]
            · have e4 : decide ((40 : Int) < (d.s.length : Int)) = decide (40 < d.s.length) := decide_eq_decide.2 (by omega)
              rw [e4]
              by_cases h0 : d.k = 2 <;> simp [h0]
          have HFit : Hid (F = !(b1 && b2 || b3 && b4)) := hfit
          clear hfit
          cases b1 <;> cases b2 <;> cases b3 <;> cases b4
          all_goals (go_wp2_with fail)
          all_goals go_meet
          all_goals exact ⟨by rw [HFit.out]; rfl, rfl⟩
        case rest =>
          obtain ⟨rfl, hwx⟩ := hcut
          have hwx' := hwx.symm
          clear hwx
          subst hwx'
          have hml : (Ck.marks (l.take i)).length ≤ 70000 := by rw [Ck.marks_len, List.length_take]; omega
          have hnl : (Ck.nums (l.take i)).length ≤ 70000 := by have := Ck.nums_len (l.take i); rw [List.length_take] at this; omega
          have htl : (Ck.txts (l.take i)).length ≤ 70000 := by have := txts_len (l.take i); rw [List.length_take] at this; omega
          cases F with
          | false =>
            have hr := HR2.out
            rw [if_neg (by rw [HNo.out HF.out]; simp)] at hr
            simp only [Prod.mk.injEq] at hr
            obtain ⟨rfl, rfl⟩ := hr
            go_wp2_with fail
            go_ret2
            exact ⟨_, rfl, hO0 _, HT1.out.bel⟩
          | true =>
            have HA9 : Hid ((l.take (i + 1)).all (Ck.fits kind) = true) := (HAt.out.trans HF.out : (l.take (i + 1)).all (Ck.fits kind) = true)
            clear HT HX HA
            by_cases h0 : d.k = 0
            · have t0 : (d.k == 0) = true := by simp [h0]
              have hmd : Ck.mark d = 1 := by simp [Ck.mark, h0]
              go_wp2_with (at_builtin; refine wpList_append_rd_at (e := 69) (enc := n64) rfl (.tmp 67) (.tmp 68) 77 rfl 0 8 Tryz.underlying77 Tryz.info69 rfl (fun _ => rfl) wc.heap.size _ (Ck.marks (l.take i)) rfl (OwnR.alloc HT1.out.m _) _ _ _ [1] rfl rfl (Rd.laid (enc := n64) w1 69 [1] (by simp)) (by simp [maxLen]; omega) (by simp; omega) (by have := HT1.out.sz; simp; omega) ?_; intro v9 w9 ho9 hg9 hat9; obtain ⟨hT9, _⟩ := HT1.out.push6 HV1.out ho9 hg9 hat9; clear ho9 hg9 hat9)
              have HT9 : Hid (Tri wc wc.heap.size w9 v9 u7 u8 (Ck.marks (l.take (i + 1))) (Ck.nums (l.take (i + 1))) (Ck.txts (l.take (i + 1)))) := (by rw [HMt.out, HNt.out, HTt.out, if_pos h0, if_pos h0, hmd]; exact hT9 : Tri wc wc.heap.size w9 v9 u7 u8 (Ck.marks (l.take (i + 1))) (Ck.nums (l.take (i + 1))) (Ck.txts (l.take (i + 1))))
              clear hT9 hmd
              go_wp2
              go_roundw
              case rel => exact ⟨i + 1, by omega, by go_num, HA9, HT9⟩
              case measure => simp [intOf]; omega
            · have t0 : (d.k == 0) = false := by simp [h0]
              have hmd : Ck.mark d = 0 := by simp [Ck.mark, h0]
              go_wp2_with (first | (at_builtin; refine wpList_append_rd_at (e := 9) (enc := st) rfl (.tmp 78) (.tmp 81) 35 rfl [] 16 Tryz.underlying35 Tryz.info9 rfl (fun _ => rfl) wc.heap.size _ (Ck.txts (l.take i)) rfl (OwnR.alloc HT10.out.t _) _ _ _ [d.s] rfl rfl (Rd.laid (enc := st) w10 9 [d.s] (by simp)) (by simp [maxLen]; omega) (by simp; omega) (by have := HT10.out.sz; simp; omega) ?_; intro v11 w11 ho9 hg9 hat9; obtain ⟨hT9, hV9⟩ := HT10.out.push8 HV10.out ho9 hg9 hat9; have HT11 : Hid (Tri wc wc.heap.size w11 v9 v10 v11 (Ck.marks (l.take i) ++ [0]) (Ck.nums (l.take i) ++ [d.n]) (Ck.txts (l.take i) ++ [d.s])) := hT9; clear ho9 hg9 hat9 hT9 hV9) | (at_builtin; refine wpList_append_rd_at (e := 2) (enc := z64) rfl (.tmp 73) (.tmp 76) 78 rfl 0 8 Tryz.underlying78 Tryz.info2 rfl (fun _ => rfl) wc.heap.size _ (Ck.nums (l.take i)) rfl (OwnR.alloc HT9.out.n _) _ _ _ [d.n] rfl rfl (Rd.laid (enc := z64) w9 2 [d.n] (by simp)) (by simp [maxLen]; omega) (by simp; omega) (by have := HT9.out.sz; simp; omega) ?_; intro v10 w10 ho9 hg9 hat9; obtain ⟨hT9, hV9⟩ := HT9.out.push7 HV9.out ho9 hg9 hat9; have HT10 : Hid (Tri wc wc.heap.size w10 v9 v10 u8 (Ck.marks (l.take i) ++ [0]) (Ck.nums (l.take i) ++ [d.n]) (Ck.txts (l.take i))) := hT9; have HV10 : Hid (VarE w10 wr.heap.size d v9 v10 u8) := hV9; obtain ⟨x0, x1, x2, x3⟩ := hV9.e.all; clear ho9 hg9 hat9 hT9 hV9) | (at_builtin; refine wpList_append_rd_at (e := 69) (enc := n64) rfl (.tmp 70) (.tmp 71) 77 rfl 0 8 Tryz.underlying77 Tryz.info69 rfl (fun _ => rfl) wc.heap.size _ (Ck.marks (l.take i)) rfl (OwnR.alloc HT1.out.m _) _ _ _ [0] rfl rfl (Rd.laid (enc := n64) w1 69 [0] (by simp)) (by simp [maxLen]; omega) (by simp; omega) (by have := HT1.out.sz; simp; omega) ?_; intro v9 w9 ho9 hg9 hat9; obtain ⟨hT9, hV9⟩ := HT1.out.push6 HV1.out ho9 hg9 hat9; have HT9 : Hid (Tri wc wc.heap.size w9 v9 u7 u8 (Ck.marks (l.take i) ++ [0]) (Ck.nums (l.take i)) (Ck.txts (l.take i))) := hT9; have HV9 : Hid (VarE w9 wr.heap.size d v9 u7 u8) := hV9; obtain ⟨y0, y1, y2, y3⟩ := hV9.e.all; clear ho9 hg9 hat9 hT9 hV9))
              have HT12 : Hid (Tri wc wc.heap.size w11 v9 v10 v11 (Ck.marks (l.take (i + 1))) (Ck.nums (l.take (i + 1))) (Ck.txts (l.take (i + 1)))) := (by rw [HMt.out, HNt.out, HTt.out, if_neg h0, if_neg h0, hmd]; exact HT11.out : Tri wc wc.heap.size w11 v9 v10 v11 (Ck.marks (l.take (i + 1))) (Ck.nums (l.take (i + 1))) (Ck.txts (l.take (i + 1))))
              clear HT9 HV9 y0 y1 y2 y3 HT10 HT11 HV10 x0 x1 x2 x3 hmd
              go_wp2
              go_roundw
              case rel => exact ⟨i + 1, by omega, by go_num, HA9, HT12⟩
              case measure => simp [intOf]; omega
      · have ti : ¬ (i : Int) < (n : Int) := by omega
        have hall : l.all (Ck.fits kind) = true := by
          have h := HA.out
          rw [List.take_of_length_le (by rw [← HN.out]; omega)] at h
          exact h
        have hT := HT.out
        rw [List.take_of_length_le (by rw [← HN.out]; omega)] at hT
        have hr := HR2.out
        rw [if_pos hall] at hr
        simp only [Prod.mk.injEq] at hr
        obtain ⟨hr1, he0⟩ := hr
        subst he0
        have HAll : Hid (l.all (Ck.fits kind) = true) := hall
        obtain ⟨f, hf⟩ : ∃ f, Ck.form kind l = f := ⟨_, rfl⟩
        have hf3 : f = 1 ∧ kind = 1 ∨ f = 2 ∧ kind = 2 ∧ (T.bld (Ck.txts l)).length ≤ 16 ∨ f = 3 ∧ kind = 2 ∧ ¬ (T.bld (Ck.txts l)).length ≤ 16 := by
          rw [← hf]; unfold Ck.form
          rcases HK.out with rfl | rfl
          · exact .inl ⟨rfl, rfl⟩
          · by_cases h : (T.bld (Ck.txts l)).length ≤ 16
            · exact .inr (.inl ⟨by simp [h], rfl, h⟩)
            · exact .inr (.inr ⟨by simp [h], rfl, h⟩)
        have HF3 : Hid (f = 1 ∧ kind = 1 ∨ f = 2 ∧ kind = 2 ∧ (T.bld (Ck.txts l)).length ≤ 16 ∨ f = 3 ∧ kind = 2 ∧ ¬ (T.bld (Ck.txts l)).length ≤ 16) := hf3
        have HEnc : Hid (Ck.hd f l ++ Ck.body f l = r) := (by rw [← hr1]; unfold Ck.enc; rw [hf] : Ck.hd f l ++ Ck.body f l = r)
        have hx1 := hd_len f l hl6
        have hf3' : f ≤ 3 := by rcases hf3 with ⟨h, _⟩ | ⟨h, _⟩ | ⟨h, _⟩ <;> omega
        obtain ⟨a6, c6, h6, hr6⟩ := hT.m.rd
        obtain ⟨a7, c7, h7, hr7⟩ := hT.n.rd
        obtain ⟨a8, c8, h8, hr8⟩ := hT.t.rd
        have hX := hT.bel
        have hml : (Ck.marks l).length = n := by rw [Ck.marks_len, HN.out]
        rw [hml] at h6
        obtain ⟨nn, hnn⟩ : ∃ nn, (Ck.nums l).length = nn := ⟨_, rfl⟩
        obtain ⟨nt, hnt⟩ : ∃ nt, (Ck.txts l).length = nt := ⟨_, rfl⟩
        have hnn6 : nn ≤ 65536 := by have := Ck.nums_len l; omega
        have hnt6 : nt ≤ 65536 := by have := txts_len l; omega
        rw [hnn] at h7
        rw [hnt] at h8
        subst h6
        subst h7
        subst h8
        have HML : Hid ((Ck.marks l).length = n) := hml
        have HNN : Hid ((Ck.nums l).length = nn) := hnn
        have HNT : Hid ((Ck.txts l).length = nt) := hnt
        have H6 : Hid (Rd n64 wr a6 c6 (Ck.marks l)) := hr6
        have H7 : Hid (Rd z64 wr a7 c7 (Ck.nums l)) := hr7
        have H8 : Hid (Rd st wr a8 c8 (Ck.txts l)) := hr8
        have HXr : Hid (Ex wc wr) := hX
        have hc7 : nn ≤ c7 := by have := hr7.1; omega
        have hc8 : nt ≤ c8 := by have := hr8.1; omega
        have hm7 := hr7.2.1
        have hm8 := hr8.2.1
        unfold maxLen at hm7 hm8
        clear hall hT hr1 hf hf3 hr6 hr7 hr8 hX hml hnn hnt HA HT HR2 HR
        go_wp2_with fail
        go_at_call 37
        refine (rbuild_is a8 nt c8 (Ck.txts l) wr HNT.out.symm H8.out (by rw [HNT.out]; omega) (T.bld (Ck.txts l)) rfl (zs (Ck.pl (Ck.txts l))) (places_zs _)).mono ?_
        rintro e2 w2 ⟨v2, u2, rfl, ⟨ad, cd, rfl, hbd⟩, ⟨ap, cp, rfl, hbp⟩, hx⟩
        obtain ⟨nd, hnd⟩ : ∃ nd, (T.bld (Ck.txts l)).length = nd := ⟨_, rfl⟩
        have hpl : (zs (Ck.pl (Ck.txts l))).length = nt := by rw [zs_len, Ck.pl_len, HNT.out]
        rw [hnd, hpl]
        have HND : Hid ((T.bld (Ck.txts l)).length = nd) := hnd
        have hnd6 : nd ≤ 65536 := by have := T.bld_len (Ck.txts l); have := HNT.out; omega
        have HD2 : Hid (Rd st w2 ad cd (T.bld (Ck.txts l))) := hbd
        have HP2 : Hid (Rd z64 w2 ap cp (zs (Ck.pl (Ck.txts l)))) := hbp
        have HX2 : Hid (Ex wc w2) := HXr.out.trans hx
        have HX2r : Hid (Ex wr w2) := hx
        have hcp : nt ≤ cp := by have := hbp.1; rw [hpl] at this; exact this
        have hmp := hbp.2.1
        unfold maxLen at hmp
        clear hbd hbp hx hnd hpl
        go_upto_if 89 with fail
        go_cut [13] (fun v wx => v = .int .i64 (f : Int) ∧ wx = w2)
        case first =>
          rcases HF3.out with ⟨rfl, rfl⟩ | ⟨rfl, rfl, h⟩ | ⟨rfl, rfl, h⟩
          · go_wp2_with fail
            go_meet
            exact ⟨rfl, rfl⟩
          · have tn : (nd : Int) ≤ 16 := by have := HND.out; omega
            clear h
            go_wp2_with fail
            go_meet
            exact ⟨rfl, rfl⟩
          · have tn : ¬ (nd : Int) ≤ 16 := by have := HND.out; omega
            clear h
            go_wp2_with fail
            go_meet
            exact ⟨rfl, rfl⟩
        case rest =>
          obtain ⟨rfl, hwx⟩ := hcut
          have hwx' := hwx.symm
          clear hwx
          subst hwx'
          go_wp2_with fail
          go_at_call 38
          refine (renc_own a6 n c6 (Ck.marks l) 1 w2 HML.out.symm (H6.out.below HX2r.out) (marks_one l) (by rw [HML.out]; omega) _ 0 (encE_marks l)).mono ?_
          rintro e3 w3 ⟨v3, rfl, ho3, hx3⟩
          obtain ⟨a3, c3, rfl, hb3⟩ := ho3.byt
          obtain ⟨E, hE⟩ : ∃ E, R.enc 1 (Ck.marks l) = E := ⟨_, rfl⟩
          rw [hE] at hb3 ⊢
          obtain ⟨ne, hne⟩ : ∃ ne, E.length = ne := ⟨_, rfl⟩
          rw [hne]
          have hhd : Ck.hd f l = M.digs f ++ M.digs l.length ++ E := by unfold Ck.hd; rw [hE]
          have HHd : Hid (Ck.hd f l = M.digs f ++ M.digs l.length ++ E) := hhd
          have hle : E.length ≤ 4000000 := by rw [hhd] at hx1; simp only [List.length_append] at hx1; omega
          have HNE : Hid (E.length = ne) := hne
          have HB3 : Hid (Byt w3 a3 c3 E) := hb3
          have HX3 : Hid (Ex wc w3) := HX2.out.trans hx3
          have HXw3 : Hid (Ex w2 w3) := hx3
          have hd1 := (M.digs_len f).2
          have hd2 := (M.digs_len l.length).2
          clear ho3 hb3 hx3 hE hne hhd
          go_wp2_with fail
          go_at_call 39
          refine (rput_is none 0 0 [] (M.digs f) (f : Int) f w3 rfl (by simp) (Byt.nil _) rfl (by omega) (by simp)).mono ?_
          rintro e4 w4 ⟨v4, rfl, ho4, hx4⟩
          obtain ⟨a4, c4, rfl, hb4⟩ := ho4.byt
          obtain ⟨n4, hn4⟩ : ∃ n4, (M.digs f).length = n4 := ⟨_, rfl⟩
          rw [hn4]
          have HN4 : Hid ((M.digs f).length = n4) := hn4
          have HB4 : Hid (Byt w4 a4 c4 (M.digs f)) := hb4
          have HX4 : Hid (Ex wc w4) := HX3.out.trans hx4
          have HXw4 : Hid (Ex w2 w4) := HXw3.out.trans hx4
          have HB34 : Hid (Byt w4 a3 c3 E) := HB3.out.below hx4
          clear ho4 hb4 hx4 hn4
          go_wp2_with fail
          go_at_call 39
          refine (rput_is a4 n4 c4 (M.digs f) (M.digs f ++ M.digs l.length) (n : Int) l.length w4 (by rw [← HN.out]) rfl HB4.out HN4.out.symm (by omega) (by omega)).mono ?_
          rintro e5 w5 ⟨v5, rfl, ho5, hx5⟩
          have HO5 : Hid (Own w5 w4.heap.size v5 (M.digs f ++ M.digs l.length)) := ho5
          have HX5 : Hid (Ex wc w5) := HX4.out.trans hx5
          have HXw5 : Hid (Ex w2 w5) := HXw4.out.trans hx5
          have HB35 : Hid (Byt w5 a3 c3 E) := HB34.out.below hx5
          have hs5 : w4.heap.size ≤ w5.heap.size := hx5.size
          have hsw : wc.heap.size ≤ w4.heap.size := HX4.out.size
          clear ho5 hx5
          go_upto_region 27 with (at_builtin; refine wpList_append_byt rfl (.tmp 104) (.tmp 105) rfl w4.heap.size _ (M.digs f ++ M.digs l.length) rfl HO5.out a3 _ c3 E rfl HNE.out.symm HB35.out (by simp only [List.length_append]; omega) hs5 ?_; intro v9 w9 ho9 hg9; have X9 : Ex wc w9 := step_below0 HX5.out HX5.out.size (HO5.out.mono hsw) hg9; have XW9 : Ex w2 w9 := step_below0 HXw5.out HXw5.out.size (HO5.out.mono HXw4.out.size) hg9; clear hg9)
          rw [← HHd.out] at ho9
          have HO9 : Hid (Own w9 wc.heap.size v9 (Ck.hd f l)) := ho9.mono hsw
          have HX9 : Hid (Ex wc w9) := X9
          have HXw9 : Hid (Ex w2 w9) := XW9
          have HE0 : Hid (Own w9 wc.heap.size v9 (Ck.hd f l)) := HO9
          clear ho9 X9 XW9 HO5 HB35 HB34 HB3 HB4 hd1 hd2 hle HNE HN4 HX5 HX4 HX3 HXw5 HXw4 HXw3 hs5 hsw HHd
          rcases HF3.out with ⟨rfl, rfl⟩ | ⟨rfl, rfl, h⟩ | ⟨rfl, rfl, h⟩
          · have hbody : Ck.body 1 l = Ck.bI (Ck.nums l) := rfl
            have HEn : Hid (Ck.hd 1 l ++ Ck.bI (Ck.nums l) = r) := HEnc.out
            have HN64 : Hid (∀ x ∈ Ck.nums l, In64 x) := (fun x hx => by simp only [Ck.nums, Ck.vals, List.mem_map, List.mem_filter] at hx; obtain ⟨c, hc, rfl⟩ := hx; exact H64.out c hc.1 : ∀ x ∈ Ck.nums l, In64 x)
            have H79 : Hid (Rd z64 w9 a7 c7 (Ck.nums l)) := H7.out.below (HX2r.out.trans HXw9.out)
            have h0 : Hid (Own w9 wc.heap.size v9 (Ck.hd 1 l ++ Ck.bI ((Ck.nums l).take 0))) := (by simpa [Ck.bI] using HO9.out : Own w9 wc.heap.size v9 (Ck.hd 1 l ++ Ck.bI ((Ck.nums l).take 0)))
            clear hbody HF3 HEnc
            go_wp2_with fail
            go_loopw [16, 17] (fun bv iv wr => ∃ i : Nat, i ≤ nn ∧ iv = .int .i64 (i : Int) ∧ Hid (Own wr wc.heap.size bv (Ck.hd 1 l ++ Ck.bI ((Ck.nums l).take i))) ∧ Hid (Ex w9 wr)) (fun bv iv wr => nn - (intOf iv).toNat)
            case atStart => exact ⟨0, by omega, rfl, h0, Ex.refl _⟩
            case round =>
              clear h0
              obtain ⟨i, hi, rfl, HO, HX⟩ := hrel
              by_cases hlt : i < nn
              · have ti : (i : Int) < (nn : Int) := by omega
                have hlt2 : i < (Ck.nums l).length := by rw [HNN.out]; exact hlt
                obtain ⟨bq, off, rfl, hc⟩ := (H79.out.below HX.out).at hlt2
                have hn64 := HN64.out _ (List.getElem_mem hlt2)
                have hsn := take_snoc hlt2
                obtain ⟨x, hx⟩ : ∃ x, (Ck.nums l)[i] = x := ⟨_, rfl⟩
                rw [hx] at hc hn64 hsn
                have hc' : wr.cell? ⟨bq, off + i, none⟩ = some (.int .i64 x) := hc
                have hz := Rw.zig_lt hn64
                obtain ⟨m, hm⟩ : ∃ m, M.zig x = m := ⟨_, rfl⟩
                rw [hm] at hz
                have HM : Hid (M.zig x = m) := hm
                have hbs := Ck.bI_snoc ((Ck.nums l).take i) x
                rw [← hsn, hm] at hbs
                have HBs : Hid (Ck.bI ((Ck.nums l).take (i + 1)) = Ck.bI ((Ck.nums l).take i) ++ M.digs m.toNat) := hbs
                have hbl := Ck.bI_len ((Ck.nums l).take i)
                have hbl2 : (Ck.bI ((Ck.nums l).take i)).length ≤ 700000 := by rw [List.length_take] at hbl; omega
                obtain ⟨ab, cb', rfl, hB⟩ := HO.out.byt
                obtain ⟨P, hP⟩ : ∃ P, Ck.hd 1 l ++ Ck.bI ((Ck.nums l).take i) = P := ⟨_, rfl⟩
                have hPl : P.length ≤ 5000000 := by rw [← hP, List.length_append]; omega
                rw [hP] at hB ⊢
                obtain ⟨np, hnp⟩ : ∃ np, P.length = np := ⟨_, rfl⟩
                rw [hnp]
                have HP : Hid (Ck.hd 1 l ++ Ck.bI ((Ck.nums l).take i) = P) := hP
                have HNP : Hid (P.length = np) := hnp
                have HBP : Hid (Byt wr ab cb' P) := hB
                have HN6 : Hid (In64 x) := hn64
                have hz2 : Hid (0 ≤ m ∧ m.toNat < 18446744073709551616) := ⟨hz.2, hz.1⟩
                have hsw : wc.heap.size ≤ wr.heap.size := (HX9.out.trans HX.out).size
                clear hx hm hsn hbs hbl hP hnp hB hc hn64 hz HO
                go_wp2_with fail
                go_at_call 40
                refine (rzig_any x m wr HN6.out.1 HN6.out.2 HM.out).mono ?_
                rintro e10 wq ⟨rfl, hwq⟩
                have hwq' := hwq.symm; clear hwq; subst hwq'
                go_wp2_with fail
                go_at_call 39
                refine (rput_is ab np cb' P (P ++ M.digs m.toNat) m m.toNat wr (Int.toNat_of_nonneg hz2.out.1).symm rfl HBP.out HNP.out.symm hz2.out.2 (by omega)).mono ?_
                rintro e11 w11 ⟨v11, rfl, ho11, hx11⟩
                have HO11 : Hid (Own w11 wc.heap.size v11 (Ck.hd 1 l ++ Ck.bI ((Ck.nums l).take (i + 1)))) := (by rw [HBs.out, ← List.append_assoc, HP.out]; exact ho11.mono hsw : Own w11 wc.heap.size v11 (Ck.hd 1 l ++ Ck.bI ((Ck.nums l).take (i + 1))))
                have HX11 : Hid (Ex w9 w11) := HX.out.trans hx11
                clear ho11 hx11 HX HBP
                go_wp2_with fail
                go_roundw
                case rel => exact ⟨i + 1, by omega, by go_num, HO11, HX11⟩
                case measure => simp [intOf]; omega
              · have ti : ¬ (i : Int) < (nn : Int) := by omega
                have ho := HO.out
                rw [List.take_of_length_le (by rw [HNN.out]; omega), HEn.out] at ho
                have HOr : Hid (Own wr wc.heap.size u16 r) := ho
                clear ho HO
                go_wp2_with fail
                go_ret2
                exact ⟨_, rfl, HOr.out, HX9.out.trans HX.out⟩
          · have hfit : T.fits (T.bld (Ck.txts l)) = true := by
              rw [T.fits_iff]
              exact ⟨fun s hs => txts_40 HAll.out s ((T.mem_bld _ _).1 hs), h, T.rise_bld _⟩
            have HFit : Hid (T.fits (T.bld (Ck.txts l)) = true) := hfit
            have HEn : Hid (Ck.hd 2 l ++ (T.enc (T.bld (Ck.txts l)) ++ R.enc (B.width (Ck.pl (Ck.txts l))) (Ck.pl (Ck.txts l))) = r) := HEnc.out
            have HPL : Hid ((Ck.pl (Ck.txts l)).length = nt) := (by rw [Ck.pl_len]; exact HNT.out : (Ck.pl (Ck.txts l)).length = nt)
            have HP9 : Hid (Rd z64 w9 ap cp (zs (Ck.pl (Ck.txts l)))) := HP2.out.below HXw9.out
            have HD9 : Hid (Rd st w9 ad cd (T.bld (Ck.txts l))) := HD2.out.below HXw9.out
            have HLt : Hid (∀ p ∈ Ck.pl (Ck.txts l), p < 70000) := (fun p hp => by have := Ck.pl_lt p hp; have := HND.out; omega : ∀ p ∈ Ck.pl (Ck.txts l), p < 70000)
            have hbL := bL_len (Ck.txts l) (by rw [HNT.out]; omega) hfit
            have hw32 := pl_w32 (Ck.txts l) (by rw [HNT.out]; omega)
            have h0 : Hid (OwnR 69 n64 w9 w9.heap.size (.slice none 0 0) ((Ck.pl (Ck.txts l)).take 0)) := (World.ownsRow_nil _ _ _ _ : OwnR 69 n64 w9 w9.heap.size (.slice none 0 0) ((Ck.pl (Ck.txts l)).take 0))
            clear h hfit HF3 HEnc
            go_wp2_with fail
            go_loopw [18, 19] (fun bv iv wr => ∃ i : Nat, i ≤ nt ∧ iv = .int .i64 (i : Int) ∧ Hid (OwnR 69 n64 wr w9.heap.size bv ((Ck.pl (Ck.txts l)).take i)) ∧ Hid (Ex w9 wr)) (fun bv iv wr => nt - (intOf iv).toNat)
            case atStart => exact ⟨0, by omega, rfl, h0, Ex.refl _⟩
            case round =>
              clear h0
              obtain ⟨i, hi, rfl, HO, HX⟩ := hrel
              by_cases hlt : i < nt
              · have ti : (i : Int) < (nt : Int) := by omega
                have hlt2 : i < (Ck.pl (Ck.txts l)).length := by rw [HPL.out]; exact hlt
                have hlt3 : i < (zs (Ck.pl (Ck.txts l))).length := by rw [zs_len]; exact hlt2
                obtain ⟨bq, off, rfl, hc⟩ := (HP9.out.below HX.out).at hlt3
                have hp7 := HLt.out _ (List.getElem_mem hlt2)
                have hsn := take_snoc hlt2
                obtain ⟨x, hx⟩ : ∃ x, (Ck.pl (Ck.txts l))[i] = x := ⟨_, rfl⟩
                have hzx : (zs (Ck.pl (Ck.txts l)))[i] = (x : Int) := by rw [zs_get hlt3 hlt2, hx]
                rw [hx] at hp7 hsn
                rw [hzx] at hc
                have hc' : wr.cell? ⟨bq, off + i, none⟩ = some (.int .i64 (x : Int)) := hc
                have HSn : Hid ((Ck.pl (Ck.txts l)).take (i + 1) = (Ck.pl (Ck.txts l)).take i ++ [x]) := hsn
                have hpt : ((Ck.pl (Ck.txts l)).take i).length ≤ 70000 := by rw [List.length_take]; omega
                have hs9 : w9.heap.size ≤ wr.heap.size := HX.out.size
                clear hx hzx hsn hc
                go_wp2_with (at_builtin; refine wpList_append_rd (e := 69) (enc := n64) rfl (.tmp 143) (.tmp 149) 77 rfl 0 8 Tryz.underlying77 Tryz.info69 rfl (fun _ => rfl) w9.heap.size _ ((Ck.pl (Ck.txts l)).take i) rfl (OwnR.alloc HO.out _) _ _ _ [x] rfl rfl (Rd.laid (enc := n64) wr 69 [x] (by simp)) (by simp [maxLen]; omega) (by simp; omega) (by simp; omega) ?_; intro v11 w11 ho11 hg11; have X11 : Ex w9 w11 := step_belowR (Below.alloc HX.out hs9 _) (by simp; omega) (OwnR.alloc HO.out _) hg11; clear hg11)
                have HO11 : Hid (OwnR 69 n64 w11 w9.heap.size v11 ((Ck.pl (Ck.txts l)).take (i + 1))) := (by rw [HSn.out]; exact ho11 : OwnR 69 n64 w11 w9.heap.size v11 ((Ck.pl (Ck.txts l)).take (i + 1)))
                have HX11 : Hid (Ex w9 w11) := X11
                clear ho11 X11 HX HO
                go_wp2
                go_roundw
                case rel => exact ⟨i + 1, by omega, by go_num, HO11, HX11⟩
                case measure => simp [intOf]; omega
              · have ti : ¬ (i : Int) < (nt : Int) := by omega
                have ho := HO.out
                rw [List.take_of_length_le (by rw [HPL.out]; omega)] at ho
                obtain ⟨aq, cq, hq, hrq⟩ := ho.rd
                rw [HPL.out] at hq
                subst hq
                have HQ : Hid (Rd n64 wr aq cq (Ck.pl (Ck.txts l))) := hrq
                have HPlt : Hid (∀ x ∈ Ck.pl (Ck.txts l), x < 18446744073709551616) := (fun x hx => by have := HLt.out x hx; omega : ∀ x ∈ Ck.pl (Ck.txts l), x < 18446744073709551616)
                have HDm : Hid (∀ x ∈ T.bld (Ck.txts l), x.length ≤ maxLen) := (fun x hx => by have := ((T.fits_iff _).1 HFit.out).1 x hx; unfold maxLen; omega : ∀ x ∈ T.bld (Ck.txts l), x.length ≤ maxLen)
                clear ho hrq HO
                go_wp2_with fail
                go_at_call 41
                refine (rencode_is ad nd cd (T.bld (Ck.txts l)) wr HND.out.symm (HD9.out.below HX.out) HDm.out (T.enc (T.bld (Ck.txts l))) 0 (if_pos HFit.out)).mono ?_
                rintro e10 w10 ⟨v10, rfl, ho10, hx10⟩
                obtain ⟨ax, cx, rfl, hbx⟩ := ho10.byt
                obtain ⟨X, hX⟩ : ∃ X, T.enc (T.bld (Ck.txts l)) = X := ⟨_, rfl⟩
                rw [hX] at hbx hbL ⊢
                obtain ⟨nx, hnx⟩ : ∃ nx, X.length = nx := ⟨_, rfl⟩
                rw [hnx]
                have HX_ : Hid (T.enc (T.bld (Ck.txts l)) = X) := hX
                have HNX : Hid (X.length = nx) := hnx
                have HBX : Hid (Byt w10 ax cx X) := hbx
                have HX10 : Hid (Ex w9 w10) := HX.out.trans hx10
                have HQ10 : Hid (Rd n64 w10 aq cq (Ck.pl (Ck.txts l))) := HQ.out.below hx10
                clear ho10 hbx hX hnx hx10 HX HQ
                go_wp2_with fail
                go_at_call 42
                have hrw := rwidth_any aq cq (Ck.pl (Ck.txts l)) w10 HQ10.out HPlt.out
                rw [HPL.out] at hrw
                refine hrw.mono ?_
                rintro e11 wq ⟨rfl, hwq⟩
                have hwq' := hwq.symm; clear hwq; subst hwq'
                clear hrw
                obtain ⟨Wd, hWd⟩ : ∃ Wd, B.width (Ck.pl (Ck.txts l)) = Wd := ⟨_, rfl⟩
                have HEw : Hid (R.encE (Ck.pl (Ck.txts l)) (Wd : Nat) = (R.enc Wd (Ck.pl (Ck.txts l)), 0)) := (by rw [← hWd]; exact encE_w hw32 : R.encE (Ck.pl (Ck.txts l)) (Wd : Nat) = (R.enc Wd (Ck.pl (Ck.txts l)), 0))
                rw [hWd] at hbL HEn hw32 ⊢
                clear hWd
                go_wp2_with fail
                go_at_call 38
                refine (renc_own aq nt cq (Ck.pl (Ck.txts l)) (Wd : Nat) w10 HPL.out.symm HQ10.out HPlt.out (by rw [HPL.out]; omega) _ 0 HEw.out).mono ?_
                rintro e12 w12 ⟨v12, rfl, ho12, hx12⟩
                obtain ⟨ay, cy, rfl, hby⟩ := ho12.byt
                obtain ⟨Y, hY⟩ : ∃ Y, R.enc Wd (Ck.pl (Ck.txts l)) = Y := ⟨_, rfl⟩
                rw [hY] at hby hbL HEn ⊢
                obtain ⟨ny, hny⟩ : ∃ ny, Y.length = ny := ⟨_, rfl⟩
                rw [hny]
                rw [HX_.out] at HEn
                have HNY : Hid (Y.length = ny) := hny
                have HBY : Hid (Byt w12 ay cy Y) := hby
                have HBX12 : Hid (Byt w12 ax cx X) := HBX.out.below hx12
                have HX12 : Hid (Ex w9 w12) := HX10.out.trans hx12
                have HO12 : Hid (Own w12 wc.heap.size v9 (Ck.hd 2 l)) := HO9.out.later HX12.out
                have hXl : X.length ≤ 4000000 := by rw [List.length_append] at hbL; omega
                have hYl : Y.length ≤ 4000000 := by rw [List.length_append] at hbL; omega
                have hs12 : wc.heap.size ≤ w12.heap.size := (HX9.out.trans HX12.out).size
                have HXc : Hid (Ex wc w12) := HX9.out.trans HX12.out
                have HFar : Hid (∀ W', w12.grownBy W' v9.ownBlock → Byt W' ay cy Y) := (fun W' hg => byt_far HBY.out hg (fun h0 q off e e2 => by
                  have h1 := (World.ownsRow.lt HO9.out q e2).2
                  have h2 := (World.ownsRow.lt ho12 q (by rw [e]; rfl)).1
                  have := HX10.out.size
                  omega) : ∀ W', w12.grownBy W' v9.ownBlock → Byt W' ay cy Y)
                clear ho12 hby hY hny hx12 HX10 HBX
                go_wp2_with (first | (at_builtin; refine wpList_append_byt rfl (.tmp 165) (.tmp 166) rfl wc.heap.size _ (Ck.hd 2 l ++ X) rfl HO13.out ay _ cy Y rfl HNY.out.symm HBY13.out (by rw [List.length_append]; omega) hs13 ?_; intro v14 w14 ho14 hg14; have X14 : Ex wc w14 := step_below0 HX13.out HX13.out.size HO13.out hg14; clear hg14) | (at_builtin; refine wpList_append_byt rfl (.tmp 163) (.tmp 164) rfl wc.heap.size _ (Ck.hd 2 l) rfl HO12.out ax _ cx X rfl HNX.out.symm HBX12.out (by omega) hs12 ?_; intro v13 w13 ho13 hg13; have HX13 : Hid (Ex wc w13) := step_below0 HXc.out HXc.out.size HO12.out hg13; have HO13 : Hid (Own w13 wc.heap.size v13 (Ck.hd 2 l ++ X)) := ho13; have HBY13 : Hid (Byt w13 ay cy Y) := HFar.out w13 hg13; have hs13 : wc.heap.size ≤ w13.heap.size := HX13.out.size; clear ho13 hg13))
                rw [List.append_assoc, HEn.out] at ho14
                go_ret2
                exact ⟨_, rfl, ho14, X14⟩
          · have h40 : ∀ s ∈ Ck.txts l, s.length ≤ 40 := txts_40 HAll.out
            have H40 : Hid (∀ s ∈ Ck.txts l, s.length ≤ 40) := h40
            have HEn : Hid (Ck.hd 3 l ++ T.texts (Ck.txts l) = r) := HEnc.out
            have H89 : Hid (Rd st w9 a8 c8 (Ck.txts l)) := H8.out.below (HX2r.out.trans HXw9.out)
            have h0 : Hid (Own w9 wc.heap.size v9 (Ck.hd 3 l ++ T.texts ((Ck.txts l).take 0))) := (by simpa [T.texts] using HO9.out : Own w9 wc.heap.size v9 (Ck.hd 3 l ++ T.texts ((Ck.txts l).take 0)))
            clear h h40 HF3 HEnc
            go_wp2_with fail
            go_loopw [16, 24] (fun bv iv wr => ∃ i : Nat, i ≤ nt ∧ iv = .int .i64 (i : Int) ∧ Hid (Own wr wc.heap.size bv (Ck.hd 3 l ++ T.texts ((Ck.txts l).take i))) ∧ Hid (Ex w9 wr)) (fun bv iv wr => nt - (intOf iv).toNat)
            case atStart => exact ⟨0, by omega, rfl, h0, Ex.refl _⟩
            case round =>
              clear h0
              obtain ⟨i, hi, rfl, HO, HX⟩ := hrel
              by_cases hlt : i < nt
              · have ti : (i : Int) < (nt : Int) := by omega
                have hlt2 : i < (Ck.txts l).length := by rw [HNT.out]; exact hlt
                obtain ⟨bq, off, rfl, hc⟩ := (H89.out.below HX.out).at hlt2
                have hs40 := H40.out _ (List.getElem_mem hlt2)
                have hsn := take_snoc hlt2
                obtain ⟨x, hx⟩ : ∃ x, (Ck.txts l)[i] = x := ⟨_, rfl⟩
                rw [hx] at hc hs40 hsn
                have hc' : wr.cell? ⟨bq, off + i, none⟩ = some (.string (str x)) := hc
                have hbs := T.texts_snoc ((Ck.txts l).take i) x
                rw [← hsn] at hbs
                have HBs : Hid (T.texts ((Ck.txts l).take (i + 1)) = T.texts ((Ck.txts l).take i) ++ T.ptext x) := hbs
                have hbl := T.texts_len ((Ck.txts l).take i) (fun s hs => by have := H40.out s (List.mem_of_mem_take hs); omega)
                have hbl2 : (T.texts ((Ck.txts l).take i)).length ≤ 4000000 := by rw [List.length_take] at hbl; omega
                obtain ⟨ab, cb', rfl, hB⟩ := HO.out.byt
                obtain ⟨P, hP⟩ : ∃ P, Ck.hd 3 l ++ T.texts ((Ck.txts l).take i) = P := ⟨_, rfl⟩
                have hPl : P.length ≤ 8000000 := by rw [← hP, List.length_append]; omega
                rw [hP] at hB ⊢
                have HP : Hid (Ck.hd 3 l ++ T.texts ((Ck.txts l).take i) = P) := hP
                have HBP : Hid (Byt wr ab cb' P) := hB
                have hsw : wc.heap.size ≤ wr.heap.size := (HX9.out.trans HX.out).size
                clear hx hsn hbs hbl hP hB hc HO
                go_wp2_with fail
                go_at_call 43
                refine (rputText_any ab cb' P x (P ++ T.ptext x) wr HBP.out (by unfold T.ptext; rw [List.append_assoc]) (by omega)).mono ?_
                rintro e11 w11 ⟨v11, rfl, ho11, hx11⟩
                have HO11 : Hid (Own w11 wc.heap.size v11 (Ck.hd 3 l ++ T.texts ((Ck.txts l).take (i + 1)))) := (by rw [HBs.out, ← List.append_assoc, HP.out]; exact ho11.mono hsw : Own w11 wc.heap.size v11 (Ck.hd 3 l ++ T.texts ((Ck.txts l).take (i + 1))))
                have HX11 : Hid (Ex w9 w11) := HX.out.trans hx11
                clear ho11 hx11 HX HBP
                go_wp2_with fail
                go_roundw
                case rel => exact ⟨i + 1, by omega, by go_num, HO11, HX11⟩
                case measure => simp [intOf]; omega
              · have ti : ¬ (i : Int) < (nt : Int) := by omega
                have ho := HO.out
                rw [List.take_of_length_le (by rw [HNT.out]; omega), HEn.out] at ho
                have HOr : Hid (Own wr wc.heap.size u16 r) := ho
                clear ho HO
                go_wp2_with fail
                go_ret2
                exact ⟨_, rfl, HOr.out, HX9.out.trans HX.out⟩
end Go.Proofs.YtnmonoafjijfhaaGreat
