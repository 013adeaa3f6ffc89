/-
  Package row: find, insert; 'copy' within a list that a call owns. Package row: growBy, Grow.
-/
import Derived.Test.YtghnbohplonhoaaLrow
import Derived.Test.YtghnbohplonhoaaLsort
import Derived.Test.YtghnbohplonhoaaRgrow
namespace Go.Proofs.Ytghnbohplonhoaa
open Go.RowKit
set_option linter.unusedVariables false
set_option linter.unusedSimpArgs false
/-- 'copy' of elements of k places each, within a row that is known whole. -/
theorem run_copy_wide (w : World) (dT sT ty elem : TypeId) (g o dLen dCap so : Nat) (sLen sCap k : Nat) (cur : Array Value) (t : TypeId) (cs : List Value)
    (hu : Try.prog.underlying dT = some (.slice elem)) (hs : (Try.prog.info? elem).map (·.size) = some k)
    (hg : w.heap[g]? = some (.cells cur t (0, 0))) (hn : cs.length = Nat.min sLen dLen * k)
    (hsrc : ∀ j v, cs[j]? = some v → w.cell? ⟨g, so + j, none⟩ = some v) (hfit : o + cs.length ≤ cur.size) (h1 : ∀ v ∈ cs, v.oneCell' = true) :
    (Builtin.copy_ #[dT, sT] ty #[.slice (some ⟨g, o, none⟩) dLen dCap, .slice (some ⟨g, so, none⟩) sLen sCap]).run Try.prog w =
      .ok (goInt (Nat.min sLen dLen)) (w.setRow g (cur.toList.take o ++ cs ++ cur.toList.drop (o + cs.length)).toArray) := by
  have hl := run_loadCells_list (P := Try.prog) w ⟨g, so, none⟩ cs (fun j v hj => by rw [add_none]; exact hsrc j v hj)
  have hst := run_storeCells_at Try.prog g o t cs 0 cur w hg (by simpa using hfit) h1
  cases hq : Try.prog.info? elem with
  | none => simp [hq] at hs
  | some i =>
    have hi : i.size = k := by simpa [hq] using hs
    simp only [Nat.add_zero] at hst
    simp [Builtin.copy_, run_underlying hu, Builtin.lenOf, Builtin.firstCells, sizeOf, typeInfo, hq, hi, ← hn, hl, hst]
theorem run_copy_zero (w : World) (dT sT ty elem : TypeId) (dp : Option Addr) (dCap : Nat) (g so sLen sCap k : Nat) (hu : Try.prog.underlying dT = some (.slice elem)) (hs : (Try.prog.info? elem).map (·.size) = some k) :
    (Builtin.copy_ #[dT, sT] ty #[.slice dp 0 dCap, .slice (some ⟨g, so, none⟩) sLen sCap]).run Try.prog w = .ok (goInt 0) w := by
  have hl := run_loadCells_list (P := Try.prog) w ⟨g, so, none⟩ [] (fun j v hj => by simp at hj)
  cases hq : Try.prog.info? elem with
  | none => simp [hq] at hs
  | some i =>
    simp only [List.length_nil] at hl
    cases dp with
    | none => simp [Builtin.copy_, run_underlying hu, Builtin.lenOf, Builtin.firstCells, sizeOf, typeInfo, hq, storeCells, hl]
    | some d => simp [Builtin.copy_, run_underlying hu, Builtin.lenOf, Builtin.firstCells, sizeOf, typeInfo, hq, storeCells, hl]
theorem Try.size46 : (Try.prog.info? 46).map (·.size) = some 2 := by kernel_rfl
theorem flat_drop (l : List Co) (n : Nat) : flat kc (l.drop n) = (flat kc l).drop (n * 2) := by
  have h := List.take_append_drop n l
  have h2 : flat kc l = flat kc (l.take n) ++ flat kc (l.drop n) := by rw [← flat_append, h]
  by_cases hn : n ≤ l.length
  · have hl : (flat kc (l.take n)).length = n * 2 := by rw [flat_len kc_len]; simp; omega
    rw [h2, ← hl, List.drop_left]
  · rw [List.drop_eq_nil_of_le (by omega), List.drop_eq_nil_of_le (by rw [flat_len kc_len]; omega)]
    rfl
/-- 'copy(s[p+1:], s[p:])', s the call's own columns. -/
theorem wpList_copy_up {w : World} {ops : Array Oper} {rest : List Oper} {o : Oper} {a : Act} {Q : Exit → Act → World → Prop} (hgd : o.guard = none) (d s : Operand)
    (ho : o.op = .call { callee := .builtin .copy, args := #[d, s], argTypes := #[44, 44] }) (base g n cap p : Nat) (L : List Co) (hown : OwnK w base (.slice (some ⟨g, 0, none⟩) n cap) L) (hn : n = L.length) (hp : p < n)
    (dp sp : Option Addr) (dCap sCap : Nat) (hd : a.eval d = .slice dp (n - (p + 1)) dCap) (hs : a.eval s = .slice sp (n - p) sCap) (hdp : p + 1 < n → dp = some ⟨g, (p + 1) * 2, none⟩) (hsp : sp = some ⟨g, p * 2, none⟩)
    (h : ∀ w', OwnK w' base (.slice (some ⟨g, 0, none⟩) n cap) (L.take (p + 1) ++ (L.drop p).take (n - (p + 1))) → w.grownBy w' (some g) → wpList Try.prog ops Q rest (a.put o.dst (goInt ((n - (p + 1) : Nat) : Int))) w') : wpList Try.prog ops Q (o :: rest) a w := by
  subst hsp
  refine wpList_plain hgd fun K hK => ?_
  by_cases h1 : p + 1 < n
  · have hdp := hdp h1
    subst hdp
    obtain ⟨hx1, hx2⟩ := hown
    rcases hx2 with ⟨hx, _⟩ | ⟨g', cap', cur, hx, hb, hg, hlc, hcm, hsz, htake⟩
    · cases hx
    · simp only [Value.slice.injEq, Option.some.injEq, Addr.mk.injEq, and_true, true_and] at hx
      obtain ⟨rfl, _, rfl⟩ := hx
      obtain ⟨cs, hcs⟩ : ∃ cs, flat kc ((L.drop p).take (n - (p + 1))) = cs := ⟨_, rfl⟩
      have hcl : cs.length = (n - (p + 1)) * 2 := by rw [← hcs, flat_len kc_len]; simp; omega
      have hmin : Nat.min (n - p) (n - (p + 1)) = n - (p + 1) := Nat.min_eq_right (by omega)
      have hall : w.ownsRow base 46 2 (.slice (some ⟨g, 0, none⟩) L.length cap) L.length (flat kc L) := ⟨hx1, .inr ⟨g, cap, cur, rfl, hb, hg, hlc, hcm, hsz, htake⟩⟩
      have hsrc : ∀ j v, cs[j]? = some v → w.cell? ⟨g, p * 2 + j, none⟩ = some v := by
        intro j v hj
        have hc := World.ownsRow.cells hall (g := g) rfl (p * 2 + j) v (by
          rw [← hcs, flat_take kc_len, flat_drop, List.getElem?_take] at hj
          split at hj
          · rwa [List.getElem?_drop] at hj
          · cases hj)
        rw [add_none, Nat.zero_add] at hc
        exact hc
      have hone : ∀ v ∈ cs, v.oneCell' = true := by
        intro v hv
        rw [← hcs] at hv
        obtain ⟨c, _, hc⟩ := List.mem_flatMap.1 hv
        exact kc_one c v hc
      have hfit : (p + 1) * 2 + cs.length ≤ cur.size := by rw [hcl, hsz]; omega
      have hrun := run_copy_wide w 44 44 o.type 46 g ((p + 1) * 2) (n - (p + 1)) dCap (p * 2) (n - p) sCap 2 cur 46 cs Try.underlying44 Try.size46 hg (by rw [hcl, hmin]) hsrc hfit hone
      rw [hmin] at hrun
      obtain ⟨W, hW⟩ : ∃ W, w.setRow g (cur.toList.take ((p + 1) * 2) ++ cs ++ cur.toList.drop ((p + 1) * 2 + cs.length)).toArray = W := ⟨_, rfl⟩
      rw [hW] at hrun
      have hLl : (L.take (p + 1) ++ (L.drop p).take (n - (p + 1))).length = L.length := by simp; omega
      have hOW : OwnK W base (.slice (some ⟨g, 0, none⟩) n cap) (L.take (p + 1) ++ (L.drop p).take (n - (p + 1))) := by
        rw [← hW]
        refine ⟨by rw [flat_len kc_len], .inr ⟨g, cap, _, by rw [hLl, hn], hb, setRow_heap w g _ _ 46 _ hg, by rw [hLl]; exact hlc, hcm, ?_, ?_⟩⟩
        · have hs1 : cur.toList.length = cap * 2 := by simpa using hsz
          simp only [List.size_toArray, List.length_append, List.length_take, List.length_drop, hs1, hcl]
          omega
        · have hs1 : cur.toList.length = cap * 2 := by simpa using hsz
          rw [hLl, flat_append, hcs, flat_take kc_len, ← htake, List.take_take]
          have hlen1 : (cur.toList.take ((p + 1) * 2)).length = (p + 1) * 2 := by rw [List.length_take]; omega
          rw [Nat.min_eq_left (by omega)]
          have he : L.length * 2 = (cur.toList.take ((p + 1) * 2) ++ cs).length := by
            rw [List.length_append, hlen1, hcl]; omega
          rw [he, List.take_left]
      have hGW : w.grownBy W (some g) := by
        rw [← hW]
        exact ⟨rfl, rfl, rfl, by simp [World.setRow], fun k hk hne => setRow_other w g k _ (by simpa using hne)⟩
      unfold Oper.wp
      simp [execOp, ho, resolve, invoke, builtin, hd, hs, hrun, Result.andThen]
      exact hK _ _ (h W hOW hGW)
  · have hp1 : n - (p + 1) = 0 := by omega
    have hrun := run_copy_zero w 44 44 o.type 46 dp dCap g (p * 2) (n - p) sCap 2 Try.underlying44 Try.size46
    rw [hp1] at hd
    have hO0 : OwnK w base (.slice (some ⟨g, 0, none⟩) n cap) (L.take (p + 1) ++ (L.drop p).take (n - (p + 1))) := by
      rw [hp1, List.take_zero, List.append_nil, List.take_of_length_le (by omega)]
      exact hown
    have h' := h w hO0 (World.grownBy.refl w _)
    rw [hp1] at h'
    unfold Oper.wp
    simp [execOp, ho, resolve, invoke, builtin, hd, hs, hrun, Result.andThen]
    exact hK _ _ h'
/-- Where a name stands, or would. -/
def FndOk (l : List Co) (s : List UInt8) (k : Nat) (hit : Bool) : Prop :=
  k ≤ l.length ∧ (∀ j y, j < k → l[j]? = some y → T.lt y.nm s = true) ∧ (hit = true → ∃ y, l[k]? = some y ∧ y.nm = s) ∧ (hit = false → ∀ y, l[k]? = some y → T.lt y.nm s = false ∧ y.nm ≠ s)
/-- What find answers. -/
def FndR (l : List Co) (s : List UInt8) (w : World) (e : Ending) (w' : World) : Prop := ∃ k hit, e = .returned (.tuple #[.int .i64 (k : Nat), .bool hit]) ∧ FndOk l s k hit ∧ Ex w w'
theorem ge_form (x y : List UInt8) : (!Op.bytesLess x y) = !T.lt x y := rfl
set_option maxHeartbeats 4000000 in
set_option maxRecDepth 100000 in
theorem find_is (a : Option Addr) (n cap : Nat) (l : List Co) (s : List UInt8) (w : World) (hn : n = l.length) (hB : RdK w a cap l) :
    Calls Try.prog 60 #[.slice a n cap, .string (str s)] w fun e w' => FndR l s w e w' := by
  subst hn
  have h1 := hB.1
  have h2 := hB.2.1
  unfold maxLen at h2
  have HB : Hid (RdK w a cap l) := hB
  have zs := str_toList s
  clear hB
  go_enter Try.func60, Try.ntmps60
  go_wp2_with fail
  go_loopw [10, 6, 7] (fun iv jv cv wr => ∃ i : Nat, i ≤ l.length ∧ iv = .int .i64 i ∧ Hid (∀ j y, j < i → l[j]? = some y → T.lt y.nm s = true) ∧ Hid (Ex w wr)) (fun iv jv cv wr => l.length - (intOf iv).toNat)
  case atStart => exact ⟨0, by omega, rfl, (fun j y hj => absurd hj (by omega) : ∀ j y, j < 0 → l[j]? = some y → T.lt y.nm s = true), Ex.refl w⟩
  case round =>
    obtain ⟨i, hi, rfl, HA, HXr⟩ := hrel
    by_cases hlt : i < l.length
    · have hti : (i : Int) < (l.length : Int) := by omega
      obtain ⟨b, off, hpp, e0, e1⟩ := RdK.two (HB.out.below HXr.out) hlt
      obtain ⟨d, hd⟩ : ∃ d, l[i] = d := ⟨_, rfl⟩
      rw [hd] at e0 e1
      have HDI : Hid (l[i]? = some d) := (by rw [List.getElem?_eq_getElem hlt, hd] : l[i]? = some d)
      have zd := str_toList d.nm
      obtain ⟨w1, hw1⟩ : ∃ w1, wr.alloc (kb d) = w1 := ⟨_, rfl⟩
      have hx1 : Ex wr w1 := by rw [← hw1]; exact (Below.refl _ _).alloc (Nat.le_refl _) _
      have HX1 : Hid (Ex w w1) := HXr.out.trans hx1
      have hE1 : KAt w1 wr.heap.size d := by rw [← hw1]; exact KAt.new wr d
      obtain ⟨x0, x1⟩ := hE1.all
      subst hpp
      clear hd hE1 hx1
      cases hlt2 : T.lt d.nm s with
      | true =>
        have hb : Op.bytesLess d.nm s = true := hlt2
        have HA2 : Hid (∀ j y, j < i + 1 → l[j]? = some y → T.lt y.nm s = true) := (fun j y hj hy => by
          by_cases h : j < i
          · exact HA.out j y h hy
          · obtain rfl : j = i := by omega
            rw [HDI.out] at hy
            simp at hy
            rw [← hy]; exact hlt2 : ∀ j y, j < i + 1 → l[j]? = some y → T.lt y.nm s = true)
        clear hlt2
        go_wp2_with fail
        go_roundw
        case rel => exact ⟨i + 1, by omega, by go_num, HA2, HX1⟩
        case measure => simp [intOf]; omega
      | false =>
        have hb : Op.bytesLess d.nm s = false := hlt2
        obtain ⟨q, hq⟩ : ∃ q, (d.nm == s) = q := ⟨_, rfl⟩
        have HQ : Hid ((d.nm == s) = q) := hq
        have HF : Hid (FndOk l s i q) := (by
          refine ⟨by omega, HA.out, fun h => ⟨d, HDI.out, by rw [h] at hq; simpa using hq⟩, fun h y hy => ?_⟩
          rw [HDI.out] at hy
          simp at hy
          rw [← hy]
          exact ⟨hlt2, by rw [h] at hq; simpa using hq⟩ : FndOk l s i q)
        clear hlt2
        go_wp2_with fail
        go_quiet (fail)
        go_wp2_with fail
        go_ret2
        exact ⟨i, q, rfl, HF.out, HX1.out.trans (Ex.drewN _ _)⟩
    · have hti : ¬ (i : Int) < (l.length : Int) := by omega
      have HF : Hid (FndOk l s l.length false) := (by
        refine ⟨Nat.le_refl _, fun j y hj => HA.out j y (by omega), fun h => (by cases h), fun _ y hy => ?_⟩
        rw [List.getElem?_eq_none (Nat.le_refl _)] at hy
        exact absurd hy (by simp) : FndOk l s l.length false)
      go_wp2_with fail
      go_ret2
      exact ⟨l.length, false, rfl, HF.out, HXr.out⟩
theorem lo44x (g n cap j : Nat) (hj : j ≤ n) (hn : n ≤ cap) (hc : cap ≤ 9223372036854775807) : ∃ a', (∀ w, (Instr.sliceAt 44 (.slice (some ⟨g, 0, none⟩) n cap) (some (.int .i64 (j : Int))) none none).run Try.prog w = .ok (.slice a' (n - j) (cap - j)) w) ∧ (j < cap → a' = some ⟨g, j * 2, none⟩) := by
  have i0 : (j : Int) ≤ (n : Int) := by omega
  have i1 : (n : Int) ≤ (cap : Int) := by omega
  by_cases h : cap = j
  · refine ⟨some ⟨g, 0, none⟩, fun w => ?_, fun hlt => by omega⟩
    have hkc : n = j := by omega
    subst h
    subst hkc
    go_simp
  · refine ⟨some ⟨g, j * 2, none⟩, fun w => ?_, fun _ => rfl⟩
    have hne : ¬ cap - j = 0 := by omega
    have hne2 : ¬ cap = j := h
    go_simp

theorem KAt.far {w w' : World} {g : Nat} {c : Co} {row : Option Nat} (h : KAt w g c) (hg : w.grownBy w' row) (hne : row ≠ some g) : KAt w' g c := by
  unfold KAt; rw [hg.block g h.lt (Ne.symm hne)]; exact h
theorem KAt.other {w : World} {g q k : Nat} {c : Co} {u : Value} (h : KAt w g c) (hne : g ≠ q) : KAt (w.setCell ⟨q, k, none⟩ u) g c := by
  unfold KAt
  rw [heap_setCell_other w _ g u (by simpa using hne)]; exact h
/-- A chain of growths: what the second turns is the first's block, or new. -/
theorem grown_chain {a b c : World} {r1 r2 : Option Nat} (h1 : a.grownBy b r1) (h2 : b.grownBy c r2) (hr : ∀ g, r2 = some g → r1 = some g ∨ a.heap.size ≤ g) : a.grownBy c r1 := by
  refine ⟨h2.os.trans h1.os, h2.tape.trans h1.tape, h2.output.trans h1.output, Nat.le_trans h1.size h2.size, fun k hk hne => ?_⟩
  rw [h2.block k (Nat.lt_of_lt_of_le hk h1.size) (fun e => ?_), h1.block k hk hne]
  rcases hr k e.symm with h | h
  · exact hne h.symm
  · omega
/-- What insert answers. -/
def InsR (base : Nat) (v : Value) (L : List Co) (w : World) (e : Ending) (w' : World) : Prop := ∃ v', e = .returned v' ∧ OwnK w' base v' L ∧ w.grownBy w' v.ownBlock ∧ (v'.ownBlock = v.ownBlock ∨ ∃ g, v'.ownBlock = some g ∧ w.heap.size ≤ g)
set_option maxHeartbeats 8000000 in
set_option maxRecDepth 100000 in
theorem insert_is (base : Nat) (v : Value) (o : List Co) (p : Nat) (c : Co) (w : World) (hown : OwnK w base v o) (hbase : base ≤ w.heap.size) (hp : p ≤ o.length) (ho : o.length ≤ 1000) :
    Calls Try.prog 61 #[v, .int .i64 (p : Int), kv c] w fun e w' => InsR base v (o.take p ++ c :: o.drop p) w e w' := by
  obtain ⟨a0, c0, hv, hrd0⟩ := hown.rd kc_len
  subst hv
  have HOWN : Hid (OwnK w base (.slice a0 o.length c0) o) := hown
  have HP : Hid (p ≤ o.length) := hp
  have HBs : Hid (base ≤ w.heap.size) := hbase
  obtain ⟨w0, hw0⟩ : ∃ w0, w.alloc (kb c) = w0 := ⟨_, rfl⟩
  have hx0 : Ex w w0 := by rw [← hw0]; exact (Below.refl _ _).alloc (Nat.le_refl _) _
  have HX0 : Hid (Ex w w0) := hx0
  have HK0 : Hid (KAt w0 w.heap.size c) := (by rw [← hw0]; exact KAt.new w c : KAt w0 w.heap.size c)
  have hs0 : w0.heap.size = w.heap.size + 1 := by rw [← hw0]; simp
  obtain ⟨w1, hw1⟩ : ∃ w1, w0.alloc (.cells #[.string (str c.nm), .int .i64 c.k] 46) = w1 := ⟨_, rfl⟩
  have hx1 : Ex w0 w1 := by rw [← hw1]; exact (Below.refl _ _).alloc (Nat.le_refl _) _
  have HX1 : Hid (Ex w w1) := hx0.trans hx1
  have HK1 : Hid (KAt w1 w.heap.size c) := HK0.out.below hx1
  have HR1 : Hid (RdK w1 (some ⟨w0.heap.size, 0, none⟩) 1 [c]) := (by rw [← hw1]; exact RdW.laid (t := 46) kc_len w0 [c] (by simp) : RdK w1 (some ⟨w0.heap.size, 0, none⟩) 1 [c])
  have HO1 : Hid (OwnK w1 base (.slice a0 o.length c0) o) := (hown.later hx0).later hx1
  have hs1 : base ≤ w1.heap.size := Nat.le_trans hbase (hx0.trans hx1).size
  have hvb : ∀ q, (Value.slice a0 o.length c0).ownBlock = some q → q < w.heap.size := fun q hq => (hown.lt q hq).2
  have HVB : Hid (∀ q, (Value.slice a0 o.length c0).ownBlock = some q → q < w.heap.size) := hvb
  have HS0 : Hid (w0.heap.size = w.heap.size + 1) := hs0
  have hstep : ∀ v2 w2, OwnK w2 base v2 (o ++ [c]) → w1.grownBy w2 (Value.slice a0 o.length c0).ownBlock → (v2.ownBlock = (Value.slice a0 o.length c0).ownBlock ∨ v2.ownBlock = some w1.heap.size) → ∃ g c2, v2 = .slice (some ⟨g, 0, none⟩) (o.length + 1) c2 ∧ o.length + 1 ≤ c2 ∧ c2 ≤ 9223372036854775807 ∧ g ≠ w.heap.size ∧
      Hid (OwnK w2 base (.slice (some ⟨g, 0, none⟩) (o.length + 1) c2) (o ++ [c])) ∧ Hid (KAt w2 w.heap.size c) ∧ Hid (w.grownBy w2 (Value.slice a0 o.length c0).ownBlock) ∧ Hid (some g = (Value.slice a0 o.length c0).ownBlock ∨ w.heap.size ≤ g) := by
    intro v2 w2 ho2 hg2 hat
    have hk2 : KAt w2 w.heap.size c := HK1.out.far hg2 (fun e => by have := HVB.out _ e; omega)
    have hgw : w.grownBy w2 (Value.slice a0 o.length c0).ownBlock := (HX1.out.grownBy _).trans hg2
    have h' := ho2
    obtain ⟨q1, q2⟩ := ho2
    rcases q2 with ⟨rfl, h0⟩ | ⟨g, c2, cur, rfl, hb, hg, hlc, hcm, hsz, htake⟩
    · simp at h0
    · have hlen : (o ++ [c]).length = o.length + 1 := by simp
      rw [hlen] at h' hlc ⊢
      have hdis : some g = (Value.slice a0 o.length c0).ownBlock ∨ w.heap.size + 1 ≤ g := by
        rcases hat with h | h
        · exact .inl h
        · right
          have hx := hx1.size
          simp only [Value.ownBlock, Option.some.injEq] at h
          omega
      refine ⟨g, c2, rfl, hlc, by unfold maxLen at hcm; omega, ?_, h', hk2, hgw, ?_⟩
      · rcases hdis with h | h
        · have := HVB.out g h.symm; omega
        · omega
      · rcases hdis with h | h
        · exact .inl h
        · exact .inr (by omega)
  obtain ⟨k0, k1⟩ := HK0.out.all
  have hcap := hrd0.1
  have hcm := hrd0.2.1
  unfold maxLen at hcm
  clear hown hp hx0 hx1 hvb hrd0 hs0
  unfold kv
  go_enter Try.func61, Try.ntmps61
  go_wp2_with (at_builtin; refine wpList_append_wide kc_len kc_one rfl (.tmp 7) (.tmp 9) 44 _ 24 rfl Try.underlying44 Try.info46 (by omega) rfl base _ o rfl HO1.out _ 1 1 _ rfl rfl HR1.out (by simp [maxLen]; omega) (by simp; omega) hs1 ?_; intro v2 w2 ho2 hg2 hat2; obtain ⟨g, c2, rfl, hlc, hc9, hgne, HO2, HK2, HG2, HD2⟩ := hstep v2 w2 ho2 hg2 hat2; clear ho2 hg2 hat2)
  obtain ⟨d1, hd1, hd2⟩ := lo44x g (o.length + 1) c2 (p + 1) (by have := HP.out; omega) hlc hc9
  obtain ⟨s1, hs1', hs2'⟩ := lo44x g (o.length + 1) c2 p (by have := HP.out; omega) hlc hc9
  have HD1 : Hid (∀ w, (Instr.sliceAt 44 (.slice (some ⟨g, 0, none⟩) (o.length + 1) c2) (some (.int .i64 ((p + 1 : Nat) : Int))) none none).run Try.prog w = .ok (.slice d1 (o.length + 1 - (p + 1)) (c2 - (p + 1))) w) := hd1
  have HS1 : Hid (∀ w, (Instr.sliceAt 44 (.slice (some ⟨g, 0, none⟩) (o.length + 1) c2) (some (.int .i64 (p : Int))) none none).run Try.prog w = .ok (.slice s1 (o.length + 1 - p) (c2 - p)) w) := hs1'
  have HDA : Hid (p + 1 < o.length + 1 → d1 = some ⟨g, (p + 1) * 2, none⟩) := (fun h => hd2 (by omega) : p + 1 < o.length + 1 → d1 = some ⟨g, (p + 1) * 2, none⟩)
  have HSA : Hid (s1 = some ⟨g, p * 2, none⟩) := hs2' (by have := HP.out; omega)
  have hp3 : (p : Int) + 1 ≤ 9223372036854775807 := by have := HP.out; omega
  have hp4 : p ≤ o.length := HP.out
  clear hd1 hd2 hs1' hs2' k0 k1
  go_upto_region 2 with fail
  have hre : ∀ w : World, (fun w w' : World => w' = w) w w := fun _ => rfl
  refine Rg.wp_rows_tail (List.take 7 _) (List.drop 7 _) (List.take_append_drop 7 _).symm [.inl (Value.slice (some ⟨g, 0, none⟩) (o.length + 1) c2), .inl (Value.int .i64 (p : Int)), .inl (Value.int .i64 ((p + 1 : Nat) : Int)), .inl (Value.slice d1 (o.length + 1 - (p + 1)) (c2 - (p + 1))), .inl (Value.slice (some ⟨g, 0, none⟩) (o.length + 1) c2), .inl (Value.int .i64 (p : Int)), .inl (Value.slice s1 (o.length + 1 - p) (c2 - p))] (fun wx => wx = w2.drew) (fun w w' => w' = w) 24 (by kernel_rfl) rfl (by kernel_rfl) (by kernel_rfl) (by kernel_rfl) (by decide) (by kernel_rfl) ?st hre rfl ?goods ?fin
  case st => exact trivial
  case goods =>
    refine Rg.goods_cons (Rg.good_move hre rfl rfl rfl) ?_
    refine Rg.goods_cons (Rg.good_move hre rfl rfl rfl) ?_
    refine Rg.goods_cons (Rg.good_bin hre rfl rfl rfl rfl (fun _ => rfl) (fun w => by first | (go_simp; done) | (go_simp; rw [I.wi64 _ (by omega) (by omega)]; done) | (go_simp; rw [I.wi64 _ (by omega) (by omega)]; omega))) ?_
    refine Rg.goods_cons (Rg.good_cut1 hre rfl rfl rfl rfl HD1.out) ?_
    refine Rg.goods_cons (Rg.good_move hre rfl rfl rfl) ?_
    refine Rg.goods_cons (Rg.good_move hre rfl rfl rfl) ?_
    refine Rg.goods_cons (Rg.good_cut1 hre rfl rfl rfl rfl HS1.out) ?_
    exact Rg.goods_nil
  case fin =>
    intro wx hx
    have HOx : Hid (OwnK wx base (.slice (some ⟨g, 0, none⟩) (o.length + 1) c2) (o ++ [c])) := (by rw [hx]; exact HO2.out.later (Ex.drew _) : OwnK wx base (.slice (some ⟨g, 0, none⟩) (o.length + 1) c2) (o ++ [c]))
    have HKx : Hid (KAt wx w.heap.size c) := (by rw [hx]; exact HK2.out.below (Ex.drew _) : KAt wx w.heap.size c)
    have HGx : Hid (w.grownBy wx (Value.slice a0 o.length c0).ownBlock) := (by rw [hx]; exact drew_grown HG2.out : w.grownBy wx (Value.slice a0 o.length c0).ownBlock)
    clear hx hre HO2 HK2 HG2
    simp only [Rg.later, List.take_succ_cons, List.take_zero, List.drop_succ_cons, List.drop_zero, Act.put, List.setIfInBounds_toArray, List.set_cons_succ, List.set_cons_zero]
    have hLn : o.length + 1 = (o ++ [c]).length := by simp
    refine wpList_copy_up rfl (.tmp 14) (.tmp 17) rfl base g (o.length + 1) c2 p (o ++ [c]) HOx.out hLn (by omega) d1 s1 _ _ rfl rfl HDA.out HSA.out ?_
    intro w3 ho3 hg3
    have hLe : (o ++ [c]).take (p + 1) ++ ((o ++ [c]).drop p).take (o.length + 1 - (p + 1)) = (o ++ [c]).take (p + 1) ++ o.drop p := by
      congr 1
      rw [List.drop_append_of_le_length hp4, List.take_append_of_le_length (by simp), List.take_of_length_le (by simp)]
    rw [hLe] at ho3
    have hlen3 : o.length + 1 = ((o ++ [c]).take (p + 1) ++ o.drop p).length := by simp; omega
    have hpx : ((o ++ [c]).take (p + 1) ++ o.drop p)[p]? = some (((o ++ [c]).take (p + 1) ++ o.drop p)[p]'(by omega)) := List.getElem?_eq_getElem (by omega)
    obtain ⟨y, hy⟩ : ∃ y, ((o ++ [c]).take (p + 1) ++ o.drop p)[p]'(by omega) = y := ⟨_, rfl⟩
    rw [hy] at hpx
    have hfin : ((o ++ [c]).take (p + 1) ++ o.drop p).set p c = o.take p ++ c :: o.drop p := by
      have h1 : ((o ++ [c]).take (p + 1)).length = p + 1 := by simp; omega
      rw [List.set_append_left _ _ (by omega)]
      have h2 : ((o ++ [c]).take (p + 1)).set p c = o.take p ++ [c] := by
        rw [List.take_add_one, List.take_append_of_le_length hp4, List.getElem?_eq_getElem (by simp; omega), Option.toList_some, List.set_append_right _ _ (by simp; omega)]
        have h3 : (o.take p).length = p := by simp; omega
        rw [h3, Nat.sub_self, List.set_cons_zero]
      rw [h2]
      simp
    have hk3 : KAt w3 w.heap.size c := HKx.out.far hg3 (by simpa using hgne)
    have HG3 : Hid (w.grownBy w3 (Value.slice a0 o.length c0).ownBlock) := grown_chain HGx.out hg3 (fun q hq => by
      simp only [Option.some.injEq] at hq
      subst hq
      rcases HD2.out with h | h
      · exact .inl h.symm
      · exact .inr h)
    obtain ⟨m0, m1⟩ := hk3.all
    have hrd := ho3.rd kc_len
    obtain ⟨a3, cc3, hav, hrd3⟩ := hrd
    simp only [Value.slice.injEq] at hav
    obtain ⟨rfl, hav2, rfl⟩ := hav
    obtain ⟨b3, off3, hb3, t0, t1⟩ := RdK.two hrd3 (i := p) (by omega)
    simp only [Option.some.injEq, Addr.mk.injEq, and_true] at hb3
    obtain ⟨rfl, rfl⟩ := hb3
    rw [hy] at t0 t1
    have t0' : w3.cell? ⟨g, p * 2, none⟩ = some (.string (str y.nm)) := by simpa using t0
    have t1' : w3.cell? ⟨g, p * 2 + 1, none⟩ = some (.int .i64 y.k) := by simpa using t1
    have fr0 := ho3.frozen (p * 2) hlen3
    have fr1 := ho3.frozen (p * 2 + 1) hlen3
    have hset1 := ho3.set kc_len (i := p) (j := 0) (x := y) (y := ⟨c.nm, y.k⟩) (u := .string (str c.nm)) hlen3 hpx (by omega) rfl
    have hset2 := hset1.set kc_len (i := p) (j := 1) (x := ⟨c.nm, y.k⟩) (y := c) (u := .int .i64 c.k) (by rw [List.length_set]; exact hlen3) (by rw [List.getElem?_set_self (by omega)]) (by omega) rfl
    rw [List.set_set, hfin] at hset2
    have HO4 : Hid (OwnK ((w3.setCell ⟨g, p * 2, none⟩ (.string (str c.nm))).setCell ⟨g, p * 2 + 1, none⟩ (.int .i64 c.k)) base (.slice (some ⟨g, 0, none⟩) (o.length + 1) c2) (o.take p ++ c :: o.drop p)) := hset2
    have HG4 : Hid (w.grownBy ((w3.setCell ⟨g, p * 2, none⟩ (.string (str c.nm))).setCell ⟨g, p * 2 + 1, none⟩ (.int .i64 c.k)) (Value.slice a0 o.length c0).ownBlock) := grown_chain HG3.out (set_grown (set_grown (World.grownBy.refl w3 (some g)) _) _) (fun q hq => by
      simp only [Option.some.injEq] at hq
      subst hq
      rcases HD2.out with h | h
      · exact .inl h.symm
      · exact .inr h)
    clear hset1 hset2 t0 t1 hrd3 hav2 hfin hpx hy hLe ho3 hg3 hlen3 hLn hk3
    go_wp2_with fail
    go_ret
    refine ⟨_, rfl, HO4.out, HG4.out, ?_⟩
    rcases HD2.out with h | h
    · exact .inl h
    · exact .inr ⟨g, rfl, h⟩
end Go.Proofs.Ytghnbohplonhoaa
namespace Go.Proofs.Ytghnbohplonhoaa
open Go.RowKit
set_option linter.unusedVariables false
set_option linter.unusedSimpArgs false
namespace Rw
theorem riseN_one {n : List Co} (h : RiseN n) {x y : Co} (hx : x ∈ n) (hy : y ∈ n) (he : x.nm = y.nm) : x = y := by
  obtain ⟨i, hi⟩ := List.getElem?_of_mem hx
  obtain ⟨j, hj⟩ := List.getElem?_of_mem hy
  by_cases h1 : i = j
  · subst h1; rw [hi] at hj; exact Option.some.inj hj
  · exfalso
    have hi' : (n.map Co.nm)[i]? = some x.nm := by rw [List.getElem?_map, hi]; rfl
    have hj' : (n.map Co.nm)[j]? = some y.nm := by rw [List.getElem?_map, hj]; rfl
    rcases Nat.lt_or_gt_of_ne h1 with h2 | h2
    · have := T.rise_at h hi' hj' h2
      rw [he, T.lt_irrefl] at this; cases this
    · have := T.rise_at h hj' hi' h2
      rw [he, T.lt_irrefl] at this; cases this
/-- A cell of another kind than its column's: no columns. -/
theorem addR_kind {o : List Co} {l : List Ce} {c : Ce} {y : Co} (hR : RiseN o) (hc : c ∈ l) (hy : y ∈ o) (hn : y.nm = c.col) (hk : y.k ≠ c.k) : addR o l = none := by
  cases h : addR o l with
  | none => rfl
  | some n =>
    exfalso
    obtain ⟨h1, h2, _⟩ := addR_facts l o n hR h
    have e := riseN_one h1 ((h2 y).2 (.inl hy)) ((h2 (co c)).2 (.inr ⟨c, hc, rfl⟩)) hn
    apply hk
    rw [e]
    rfl
/-- What a row makes of columns. -/
def growR (o : List Co) (r : Rw) : Option (List Co) × Nat :=
  if right r = false then (none, 1) else
    match addR o r.c with
    | none => (none, 22)
    | some n => if n.length ≤ 12 then (some n, 0) else (none, 4)
theorem colsOk_add {o n : List Co} {r : Rw} (ho : colsOk o = true) (hr : right r = true) (ha : addR o r.c = some n) (hn : n.length ≤ 12) : colsOk n = true := by
  obtain ⟨h1, h2, _⟩ := (colsOk_iff o).1 ho
  obtain ⟨q1, q2, _⟩ := addR_facts r.c o n h2 ha
  refine (colsOk_iff n).2 ⟨fun y hy => ?_, q1, hn⟩
  rcases (q2 y).1 hy with h | ⟨c, hc, rfl⟩
  · exact h1 y h
  · have hk := ((right_iff r).1 hr).2.1 c hc
    unfold celOk at hk
    rw [Bool.and_eq_true, form_iff] at hk
    unfold colOk co
    rw [hk.1]
    rcases hk.2 with h | h
    · simp [h.1]
    · simp [h.1]
theorem growF_growR {i : Nat} {o : List Co} {l : List Rw} (h : i < l.length) : growF i o (l.drop i) = match growR o l[i] with | (some n, _) => growF (i + 1) n (l.drop (i + 1)) | (none, e) => ([], e, i) := by
  unfold growR
  by_cases hr : right l[i] = true
  · rw [if_neg (by rw [hr]; simp)]
    cases ha : addR o l[i].c with
    | none => exact growF_other h hr ha
    | some n =>
      simp only []
      by_cases hn : n.length ≤ 12
      · rw [if_pos hn]
        exact growF_step h hr ha hn
      · rw [if_neg hn]
        exact growF_many h hr ha (by omega)
  · rw [if_pos (by simpa using hr)]
    exact growF_wrong h (by simpa using hr)
end Rw
/-- What growBy answers. -/
def GrR (wb : World) (o : List Co) (r : Rw) (e : Ending) (w' : World) : Prop := ∃ v' e0, e = .returned (.tuple #[v', .int .i64 (e0 : Nat)]) ∧ (Rw.growR o r).2 = e0 ∧ (∀ n, (Rw.growR o r).1 = some n → OwnK w' wb.heap.size v' n) ∧ ((Rw.growR o r).1 = none → v' = .slice none 0 0) ∧ Ex wb w'
theorem GrR.bad {wb w' : World} {o : List Co} {r : Rw} {e0 : Nat} (h : Rw.growR o r = (none, e0)) (hx : Ex wb w') : GrR wb o r (.returned (.tuple #[.slice none 0 0, .int .i64 (e0 : Int)])) w' :=
  ⟨_, e0, rfl, by rw [h], fun n hn => (by rw [h] at hn; cases hn), fun _ => rfl, hx⟩
theorem GrR.good {wb w' : World} {o n : List Co} {r : Rw} {v : Value} (h : Rw.growR o r = (some n, 0)) (ho : OwnK w' wb.heap.size v n) (hx : Ex wb w') : GrR wb o r (.returned (.tuple #[v, .int .i64 0])) w' :=
  ⟨v, 0, rfl, by rw [h], fun m hm => (by rw [h] at hm; cases hm; exact ho), fun hm => (by rw [h] at hm; cases hm), hx⟩
set_option maxHeartbeats 8000000 in
set_option maxRecDepth 100000 in
theorem growBy_is (wb : World) (v : Value) (o : List Co) (vr : RV) (r : Rw) (w : World) (hx : Ex wb w) (hown : OwnK w wb.heap.size v o) (hv : RvOk wb vr r) (hl : RwOk r) (ho : Rw.colsOk o = true) :
    Calls Try.prog 50 #[v, rvv vr] w fun e w' => GrR wb o r e w' := by
  obtain ⟨vt, vq, p, n, cap⟩ := vr
  have h0 := hv
  obtain ⟨rfl, rfl, hn, hB⟩ := hv
  simp only at hn hB
  subst hn
  obtain ⟨ao, co, hav, hrdo⟩ := hown.rd kc_len
  subst hav
  obtain ⟨hO1, hO2, hO3⟩ := (Rw.colsOk_iff o).1 ho
  have h1 := hB.1
  have h2 := hB.2.1
  unfold maxLen at h2
  have HRO : Hid (Rw.RiseN o) := hO2
  have HOK : Hid (RwOk r) := hl
  have HXb : Hid (Ex wb w) := hx
  obtain ⟨w0, hw0⟩ : ∃ w0, w.alloc (rb ⟨r.t, r.q, p, r.c.length, cap⟩) = w0 := ⟨_, rfl⟩
  have hx0 : Ex w w0 := by rw [← hw0]; exact (Below.refl _ _).alloc (Nat.le_refl _) _
  have HX0 : Hid (Ex wb w0) := hx.trans hx0
  have HZ0 : Hid (LAt w0 w.heap.size ⟨r.t, r.q, p, r.c.length, cap⟩) := (by rw [← hw0]; exact LAt.new w _ : LAt w0 w.heap.size ⟨r.t, r.q, p, r.c.length, cap⟩)
  have HV0 : Hid (RvOk w0 ⟨r.t, r.q, p, r.c.length, cap⟩ r) := h0.below HX0.out
  have HB : Hid (RdC wb p cap r.c) := hB
  have HO0 : Hid (OwnK w0 wb.heap.size (.slice ao o.length co) o) := hown.later hx0
  have HVB : Hid (∀ q, (Value.slice ao o.length co).ownBlock = some q → q < w.heap.size) := (fun q hq => (hown.lt q hq).2 : ∀ q, (Value.slice ao o.length co).ownBlock = some q → q < w.heap.size)
  obtain ⟨rt, hrt⟩ : ∃ b, Rw.right r = b := ⟨_, rfl⟩
  have HRT : Hid (Rw.right r = rt) := hrt
  have hcmo := hrdo.2.1
  unfold maxLen at hcmo
  have hno := hrdo.1
  obtain ⟨n0, n1, n2⟩ := HZ0.out.all
  clear hB h0 hl hrt hown hx hx0 hrdo hO1 hO2 ho
  unfold rvv
  simp only [sv]
  go_enter Try.func50, Try.ntmps50
  go_wp2_with fail
  go_at_call 14
  refine (sright_is ⟨r.t, r.q, p, r.c.length, cap⟩ r _ HV0.out HOK.out rt HRT.out).mono ?_
  rintro e w1 ⟨rfl, hx1⟩
  have HX1 : Hid (Ex wb w1) := HX0.out.trans hx1
  have HZ1 : Hid (LAt w1 w.heap.size ⟨r.t, r.q, p, r.c.length, cap⟩) := HZ0.out.below hx1
  have HO1 : Hid (OwnK w1 wb.heap.size (.slice ao o.length co) o) := HO0.out.later hx1
  clear hx1 n0 n1 n2
  obtain ⟨n0, n1, n2⟩ := HZ1.out.all
  cases rt with
  | false =>
    have HF : Hid (Rw.growR o r = (none, 1)) := (by unfold Rw.growR; rw [if_pos HRT.out] : Rw.growR o r = (none, 1))
    go_wp2_with fail
    go_ret2
    exact GrR.bad HF.out HX1.out
  | true =>
    have hRt := (Rw.right_iff r).1 HRT.out
    obtain ⟨⟨_, _, _, _, hc8⟩, hcs, hrise⟩ := hRt
    have HRise : Hid (T.Rise (r.c.map Ce.col)) := hrise
    clear hcs hrise
    obtain ⟨no, hno'⟩ : ∃ no, o.length = no := ⟨_, rfl⟩
    have HNO : Hid (o.length = no) := hno'
    rw [hno'] at hno hO3 HO1 HVB ⊢
    clear hno' HO0
    go_wp2_with fail
    go_loopw [20, 7, 8, 9] (fun iv cv pv kv wr => ∃ i : Nat, i ≤ r.c.length ∧ iv = .int .i64 i ∧ Hid (∀ c ∈ r.c.take i, ∀ y ∈ o, y.nm = c.col → y.k = c.k) ∧ Hid (Ex w1 wr)) (fun iv cv pv kv wr => r.c.length - (intOf iv).toNat)
    case atStart => exact ⟨0, by omega, rfl, (by simp : ∀ c ∈ r.c.take 0, ∀ y ∈ o, y.nm = c.col → y.k = c.k), Ex.refl w1⟩
    case round =>
      obtain ⟨i, hi, rfl, HA, HXr⟩ := hrel
      clear n0 n1 n2
      by_cases hlt : i < r.c.length
      · have hti : (i : Int) < (r.c.length : Int) := by omega
        obtain ⟨b, off, hpp, e0, e1, e2, e3⟩ := RdC.four (HB.out.below (HX1.out.trans HXr.out)) hlt
        obtain ⟨d, hd⟩ : ∃ d, r.c[i] = d := ⟨_, rfl⟩
        rw [hd] at e0 e1 e2 e3
        have HM : Hid (d ∈ r.c) := (by rw [← hd]; exact List.getElem_mem hlt : d ∈ r.c)
        have HNX : Hid (r.c.take (i + 1) = r.c.take i ++ [d]) := (by rw [List.take_add_one, List.getElem?_eq_getElem hlt, hd]; rfl : r.c.take (i + 1) = r.c.take i ++ [d])
        obtain ⟨w2, hw2⟩ : ∃ w2, wr.alloc (cb d) = w2 := ⟨_, rfl⟩
        have hx2 : Ex wr w2 := by rw [← hw2]; exact (Below.refl _ _).alloc (Nat.le_refl _) _
        have HX2 : Hid (Ex w1 w2) := HXr.out.trans hx2
        have HE2 : Hid (EAt w2 wr.heap.size d) := (by rw [← hw2]; exact EAt.new wr d : EAt w2 wr.heap.size d)
        obtain ⟨z0, z1, z2, z3⟩ := HE2.out.all
        obtain ⟨ao', co', hav', hrd2⟩ := (HO1.out.later HX2.out).rd kc_len
        simp only [Value.slice.injEq] at hav'
        obtain ⟨rfl, hmid, rfl⟩ := hav'
        have HRD2 : Hid (RdK w2 ao co o) := hrd2
        subst hpp
        clear hd hx2 hrd2 hmid
        go_wp2_with fail
        go_at_call 60
        refine (find_is ao no co o d.col _ HNO.out.symm HRD2.out).mono ?_
        rintro e w3 ⟨k, hit, rfl, hfo, hx3⟩
        have HFO : Hid (FndOk o d.col k hit) := hfo
        have HX3 : Hid (Ex w1 w3) := HX2.out.trans hx3
        have HE3 : Hid (EAt w3 wr.heap.size d) := HE2.out.below hx3
        have HRD3 : Hid (RdK w3 ao co o) := RdW.below HRD2.out hx3
        clear hx3 z0 z1 z2 z3 hfo
        obtain ⟨x0, x1, x2, x3⟩ := HE3.out.all
        cases hit with
        | false =>
          have HA2 : Hid (∀ c ∈ r.c.take (i + 1), ∀ y ∈ o, y.nm = c.col → y.k = c.k) := (by
            intro c hc y hy hn
            rw [HNX.out] at hc
            rcases List.mem_append.1 hc with h | h
            · exact HA.out c h y hy hn
            · rw [List.mem_singleton] at h
              subst h
              exfalso
              obtain ⟨f1, f2, _, f4⟩ := HFO.out
              obtain ⟨j, hj⟩ := List.getElem?_of_mem hy
              rcases Nat.lt_trichotomy j k with h | h | h
              · have := f2 j y h hj
                rw [hn, T.lt_irrefl] at this; cases this
              · subst h
                exact (f4 rfl y hj).2 hn
              · have hkl : k < o.length := by have := (List.getElem?_eq_some_iff.1 hj).1; omega
                have hz : o[k]? = some o[k] := List.getElem?_eq_getElem hkl
                have g1 := f4 rfl _ hz
                have g2 := T.rise_at HRO.out (i := k) (j := j) (x := o[k].nm) (y := y.nm) (by rw [List.getElem?_map, hz]; rfl) (by rw [List.getElem?_map, hj]; rfl) h
                rw [hn] at g2
                exact absurd g2 (by rw [g1.1]; simp) : ∀ c ∈ r.c.take (i + 1), ∀ y ∈ o, y.nm = c.col → y.k = c.k)
          go_upto_region 7 with fail
          have hre := Ex.refl
          refine Rg.wp_rows [.inl (.bool false), .inl (.bool false), .inl undef, .inl undef, .inl undef, .inl undef, .inl undef, .inl undef, .inl undef, .inl undef, .inl (.bool false)] (Ex w3) Ex 72 (by kernel_rfl) rfl (by kernel_rfl) ?st hre (Ex.drew _) ?goods ?fin
          case st => exact trivial
          case goods =>
            refine Rg.goods_cons (Rg.good_move hre rfl rfl rfl) ?_
            refine Rg.goods_cons (Rg.good_move hre rfl rfl rfl) ?_
            refine Rg.goods_cons (Rg.good_skip rfl) ?_
            refine Rg.goods_cons (Rg.good_skip rfl) ?_
            refine Rg.goods_cons (Rg.good_skip rfl) ?_
            refine Rg.goods_cons (Rg.good_skip rfl) ?_
            refine Rg.goods_cons (Rg.good_skip rfl) ?_
            refine Rg.goods_cons (Rg.good_skip rfl) ?_
            refine Rg.goods_cons (Rg.good_skip rfl) ?_
            refine Rg.goods_cons (Rg.good_skip rfl) ?_
            refine Rg.goods_cons (Rg.good_pick false hre rfl rfl rfl rfl) ?_
            exact Rg.goods_nil
          case fin =>
            intro wx hx
            simp only [Rg.later, Act.put, List.setIfInBounds_toArray, List.set_cons_succ, List.set_cons_zero]
            have HX9 : Hid (Ex w1 wx) := HX3.out.trans hx
            go_wp2_with fail
            go_roundw
            case rel => exact ⟨i + 1, by omega, by go_num, HA2, HX9⟩
            case measure => simp [intOf]; omega
        | true =>
          obtain ⟨f1, f2, f3, _⟩ := HFO.out
          obtain ⟨y, hy, hyn⟩ := f3 rfl
          have hkl : k < o.length := (List.getElem?_eq_some_iff.1 hy).1
          have hye : o[k] = y := (List.getElem?_eq_some_iff.1 hy).2
          obtain ⟨bK, oK, hpK, y0, y1⟩ := RdK.two HRD3.out hkl
          rw [hye] at y0 y1
          have HYM : Hid (y ∈ o ∧ y.nm = d.col) := ⟨List.mem_of_getElem? hy, hyn⟩
          have hkn : k < no := by have := HNO.out; omega
          subst hpK
          clear f1 f2 f3 hy hyn hkl hye
          by_cases hkk : y.k = d.k
          · have HA2 : Hid (∀ c ∈ r.c.take (i + 1), ∀ z ∈ o, z.nm = c.col → z.k = c.k) := (by
              intro c hc z hz hn
              rw [HNX.out] at hc
              rcases List.mem_append.1 hc with h | h
              · exact HA.out c h z hz hn
              · rw [List.mem_singleton] at h
                subst h
                have := Rw.riseN_one HRO.out hz HYM.out.1 (by rw [hn, HYM.out.2])
                rw [this]; exact hkk : ∀ c ∈ r.c.take (i + 1), ∀ z ∈ o, z.nm = c.col → z.k = c.k)
            have hkk : (y.k != d.k) = false := by simp [hkk]
            go_upto_region 7 with fail
            have hre := Ex.refl
            refine Rg.wp_rows [.inl (.bool true), .inl (.bool true), .inl (.slice (some ⟨bK, oK, none⟩) no co), .inl (.int .i64 (k : Int)), .inl (.pointer (some ⟨bK, oK + k * 2, none⟩)), .inl (.pointer (some ⟨bK, oK + k * 2 + 1, none⟩)), .inl (.int .i64 y.k), .inl (.pointer (some ⟨wr.heap.size, 1, none⟩)), .inl (.int .i64 d.k), .inl (.bool false), .inl (.bool false)] (Ex w3) Ex 72 (by kernel_rfl) rfl (by kernel_rfl) ?st hre (Ex.drew _) ?goods ?fin
            case st => exact trivial
            case goods =>
              refine Rg.goods_cons (Rg.good_move hre rfl rfl rfl) ?_
              refine Rg.goods_cons (Rg.good_move hre rfl rfl rfl) ?_
              refine Rg.goods_cons (Rg.good_move hre rfl rfl rfl) ?_
              refine Rg.goods_cons (Rg.good_move hre rfl rfl rfl) ?_
              refine Rg.goods_cons (Rg.good_index hre rfl rfl rfl rfl (fun wx hC => by first | (go_simp; done) | (go_simp; omega))) ?_
              refine Rg.goods_cons (Rg.good_field hre rfl rfl rfl (fun wx hC => by go_simp)) ?_
              refine Rg.goods_cons (Rg.good_load hre rfl rfl rfl (fun wx hC => by have hz := cell_ex y1 hC; go_simp)) ?_
              refine Rg.goods_cons (Rg.good_field hre rfl rfl rfl (fun wx hC => by go_simp)) ?_
              refine Rg.goods_cons (Rg.good_load hre rfl rfl rfl (fun wx hC => by have hz := cell_ex x1 hC; go_simp)) ?_
              refine Rg.goods_cons (Rg.good_bin hre rfl rfl rfl rfl (fun _ => rfl) (fun w => by first | (go_simp; done) | (go_simp; exact hkk))) ?_
              refine Rg.goods_cons (Rg.good_pick true hre rfl rfl rfl rfl) ?_
              exact Rg.goods_nil
            case fin =>
              intro wx hx
              simp only [Rg.later, Act.put, List.setIfInBounds_toArray, List.set_cons_succ, List.set_cons_zero]
              have HX9 : Hid (Ex w1 wx) := HX3.out.trans hx
              go_wp2_with fail
              go_roundw
              case rel => exact ⟨i + 1, by omega, by go_num, HA2, HX9⟩
              case measure => simp [intOf]; omega
          · have HF : Hid (Rw.growR o r = (none, 22)) := (by unfold Rw.growR; rw [if_neg (by rw [HRT.out]; simp), Rw.addR_kind HRO.out HM.out HYM.out.1 HYM.out.2 hkk] : Rw.growR o r = (none, 22))
            have hkk : (y.k != d.k) = true := by simp [hkk]
            go_upto_region 7 with fail
            have hre := Ex.refl
            refine Rg.wp_rows [.inl (.bool true), .inl (.bool true), .inl (.slice (some ⟨bK, oK, none⟩) no co), .inl (.int .i64 (k : Int)), .inl (.pointer (some ⟨bK, oK + k * 2, none⟩)), .inl (.pointer (some ⟨bK, oK + k * 2 + 1, none⟩)), .inl (.int .i64 y.k), .inl (.pointer (some ⟨wr.heap.size, 1, none⟩)), .inl (.int .i64 d.k), .inl (.bool true), .inl (.bool true)] (Ex w3) Ex 72 (by kernel_rfl) rfl (by kernel_rfl) ?st hre (Ex.drew _) ?goods ?fin
            case st => exact trivial
            case goods =>
              refine Rg.goods_cons (Rg.good_move hre rfl rfl rfl) ?_
              refine Rg.goods_cons (Rg.good_move hre rfl rfl rfl) ?_
              refine Rg.goods_cons (Rg.good_move hre rfl rfl rfl) ?_
              refine Rg.goods_cons (Rg.good_move hre rfl rfl rfl) ?_
              refine Rg.goods_cons (Rg.good_index hre rfl rfl rfl rfl (fun wx hC => by first | (go_simp; done) | (go_simp; omega))) ?_
              refine Rg.goods_cons (Rg.good_field hre rfl rfl rfl (fun wx hC => by go_simp)) ?_
              refine Rg.goods_cons (Rg.good_load hre rfl rfl rfl (fun wx hC => by have hz := cell_ex y1 hC; go_simp)) ?_
              refine Rg.goods_cons (Rg.good_field hre rfl rfl rfl (fun wx hC => by go_simp)) ?_
              refine Rg.goods_cons (Rg.good_load hre rfl rfl rfl (fun wx hC => by have hz := cell_ex x1 hC; go_simp)) ?_
              refine Rg.goods_cons (Rg.good_bin hre rfl rfl rfl rfl (fun _ => rfl) (fun w => by first | (go_simp; done) | (go_simp; exact hkk))) ?_
              refine Rg.goods_cons (Rg.good_pick true hre rfl rfl rfl rfl) ?_
              exact Rg.goods_nil
            case fin =>
              intro wx hx
              simp only [Rg.later, Act.put, List.setIfInBounds_toArray, List.set_cons_succ, List.set_cons_zero]
              have HX9 : Hid (Ex wb wx) := HX1.out.trans (HX3.out.trans hx)
              go_wp2_with fail
              go_ret2
              exact GrR.bad HF.out HX9.out
      · have hti : ¬ (i : Int) < (r.c.length : Int) := by omega
        have HKD : Hid (∀ c ∈ r.c, ∀ y ∈ o, y.nm = c.col → y.k = c.k) := (by have h := HA.out; rw [List.take_of_length_le (by omega)] at h; exact h : ∀ c ∈ r.c, ∀ y ∈ o, y.nm = c.col → y.k = c.k)
        rename World => wa
        have HXa : Hid (Ex wb wa) := HX1.out.trans HXr.out
        have HZa : Hid (LAt wa w.heap.size ⟨r.t, r.q, p, r.c.length, cap⟩) := HZ1.out.below HXr.out
        have HOa : Hid (OwnK wa wb.heap.size (.slice ao no co) o) := HO1.out.later HXr.out
        obtain ⟨n0, n1, n2⟩ := HZa.out.all
        clear HA HXr
        go_wp2_with fail
        go_loopw [46, 0, 11, 12, 13] (fun iv vv cv pv kv wr => ∃ (i n' c' : Nat) (a' : Option Addr) (O : List Co), i ≤ r.c.length ∧ n' ≤ 12 + i ∧ iv = .int .i64 i ∧ vv = .slice a' n' c' ∧ Hid (n' = O.length) ∧ Hid (Rw.addR O (r.c.drop i) = Rw.addR o r.c) ∧ Hid (∀ y, y ∈ O ↔ y ∈ o ∨ ∃ c ∈ r.c.take i, y = Rw.co c) ∧ Hid (Rw.RiseN O) ∧ Hid (OwnK wr wb.heap.size (.slice a' n' c') O) ∧ Hid (Ex wb wr)) (fun iv vv cv pv kv wr => r.c.length - (intOf iv).toNat)
        case atStart => exact ⟨0, no, co, ao, o, by omega, by omega, rfl, rfl, HNO.out.symm, (by simp : Rw.addR o (r.c.drop 0) = Rw.addR o r.c), (by simp : ∀ y, y ∈ o ↔ y ∈ o ∨ ∃ c ∈ r.c.take 0, y = Rw.co c), HRO, HOa, HXa⟩
        case round =>
          obtain ⟨i, n', c', a', O, hi, hn', rfl, rfl, HNl, HAR, HMem, HRi, HOr, HXr⟩ := hrel
          clear n0 n1 n2 HOa HXa HZa
          by_cases hlt : i < r.c.length
          · have hti : (i : Int) < (r.c.length : Int) := by omega
            obtain ⟨b, off, hpp, e0, e1, e2, e3⟩ := RdC.four (HB.out.below HXr.out) hlt
            obtain ⟨d, hd⟩ : ∃ d, r.c[i] = d := ⟨_, rfl⟩
            rw [hd] at e0 e1 e2 e3
            have HM : Hid (d ∈ r.c) := (by rw [← hd]; exact List.getElem_mem hlt : d ∈ r.c)
            have HDI : Hid (r.c[i]? = some d) := (by rw [List.getElem?_eq_getElem hlt, hd] : r.c[i]? = some d)
            have HNX : Hid (r.c.take (i + 1) = r.c.take i ++ [d]) := (by rw [List.take_add_one, List.getElem?_eq_getElem hlt, hd]; rfl : r.c.take (i + 1) = r.c.take i ++ [d])
            have HST : Hid (Rw.addR O (r.c.drop i) = (Rw.addC (Rw.co d) O).bind (fun n => Rw.addR n (r.c.drop (i + 1)))) := (by rw [Rw.addR_step hlt, hd] : Rw.addR O (r.c.drop i) = (Rw.addC (Rw.co d) O).bind (fun n => Rw.addR n (r.c.drop (i + 1))))
            -- what has this cell's name is of the columns that were there, and of its kind
            have HKO : Hid (∀ y ∈ O, y.nm = d.col → y.k = d.k) := (by
              intro y hy hn
              rcases (HMem.out y).1 hy with h | ⟨c, hc, rfl⟩
              · exact HKD.out d HM.out y h hn
              · exfalso
                obtain ⟨j, hj⟩ := List.getElem?_of_mem hc
                rw [List.getElem?_take] at hj
                split at hj
                · rename_i hji
                  have := T.rise_at HRise.out (i := j) (j := i) (x := c.col) (y := d.col) (by rw [List.getElem?_map, hj]; rfl) (by rw [List.getElem?_map, HDI.out]; rfl) hji
                  rw [show c.col = d.col from hn, T.lt_irrefl] at this
                  cases this
                · exact absurd hj (by simp) : ∀ y ∈ O, y.nm = d.col → y.k = d.k)
            obtain ⟨w2, hw2⟩ : ∃ w2, wr.alloc (cb d) = w2 := ⟨_, rfl⟩
            have hx2 : Ex wr w2 := by rw [← hw2]; exact (Below.refl _ _).alloc (Nat.le_refl _) _
            have HX2 : Hid (Ex wr w2) := hx2
            have HE2 : Hid (EAt w2 wr.heap.size d) := (by rw [← hw2]; exact EAt.new wr d : EAt w2 wr.heap.size d)
            obtain ⟨z0, z1, z2, z3⟩ := HE2.out.all
            obtain ⟨ao', co', hav', hrd2⟩ := (HOr.out.later HX2.out).rd kc_len
            simp only [Value.slice.injEq] at hav'
            obtain ⟨rfl, hmid, rfl⟩ := hav'
            have HRD2 : Hid (RdK w2 a' c' O) := hrd2
            subst hpp
            clear hd hx2 hrd2 hmid
            go_wp2_with fail
            go_at_call 60
            refine (find_is a' n' c' O d.col _ HNl.out HRD2.out).mono ?_
            rintro e w3 ⟨k, hit, rfl, hfo, hx3⟩
            have HFO : Hid (FndOk O d.col k hit) := hfo
            have HX3 : Hid (Ex wr w3) := HX2.out.trans hx3
            have HE3 : Hid (EAt w3 wr.heap.size d) := HE2.out.below hx3
            have HO3 : Hid (OwnK w3 wb.heap.size (.slice a' n' c') O) := HOr.out.later HX3.out
            clear hx3 z0 z1 z2 z3 hfo
            obtain ⟨z0, z1, z2, z3⟩ := HE3.out.all
            cases hit with
            | true =>
              obtain ⟨f1, f2, f3, _⟩ := HFO.out
              obtain ⟨y, hy, hyn⟩ := f3 rfl
              have hac : Rw.addC (Rw.co d) O = some O := by
                rw [Rw.addC_hit (c := Rw.co d) f2 hy hyn, if_pos (show y.k = (Rw.co d).k from HKO.out y (List.mem_of_getElem? hy) hyn)]
              have HAR2 : Hid (Rw.addR O (r.c.drop (i + 1)) = Rw.addR o r.c) := (by rw [← HAR.out, HST.out, hac]; rfl : Rw.addR O (r.c.drop (i + 1)) = Rw.addR o r.c)
              have HMem2 : Hid (∀ y, y ∈ O ↔ y ∈ o ∨ ∃ c ∈ r.c.take (i + 1), y = Rw.co c) := (by
                intro z
                constructor
                · intro hz
                  rcases (HMem.out z).1 hz with h | ⟨c, hc, h⟩
                  · exact .inl h
                  · exact .inr ⟨c, by rw [HNX.out]; exact List.mem_append_left _ hc, h⟩
                · rintro (h | ⟨c, hc, h⟩)
                  · exact (HMem.out z).2 (.inl h)
                  · rw [HNX.out] at hc
                    rcases List.mem_append.1 hc with hc | hc
                    · exact (HMem.out z).2 (.inr ⟨c, hc, h⟩)
                    · rw [List.mem_singleton] at hc
                      subst hc
                      exact h ▸ ((Rw.addC_mem hac (Rw.co c)).2 (.inr rfl)) : ∀ y, y ∈ O ↔ y ∈ o ∨ ∃ c ∈ r.c.take (i + 1), y = Rw.co c)
              have HX9 : Hid (Ex wb w3) := HXr.out.trans HX3.out
              clear f1 f2 f3 hy hyn hac
              go_wp2_with fail
              go_roundw
              case rel => exact ⟨i + 1, n', c', a', O, by omega, by omega, by go_num, rfl, HNl, HAR2, HMem2, HRi, HO3, HX9⟩
              case measure => simp [intOf]; omega
            | false =>
              obtain ⟨f1, f2, _, f4⟩ := HFO.out
              have hac : Rw.addC (Rw.co d) O = some (O.take k ++ Rw.co d :: O.drop k) := Rw.addC_new f1 f2 (f4 rfl)
              obtain ⟨O2, hO2⟩ : ∃ O2, O.take k ++ Rw.co d :: O.drop k = O2 := ⟨_, rfl⟩
              rw [hO2] at hac
              have HO2 : Hid (O.take k ++ Rw.co d :: O.drop k = O2) := hO2
              have HAR2 : Hid (Rw.addR O2 (r.c.drop (i + 1)) = Rw.addR o r.c) := (by rw [← HAR.out, HST.out, hac]; rfl : Rw.addR O2 (r.c.drop (i + 1)) = Rw.addR o r.c)
              have HMem2 : Hid (∀ y, y ∈ O2 ↔ y ∈ o ∨ ∃ c ∈ r.c.take (i + 1), y = Rw.co c) := (by
                intro z
                rw [Rw.addC_mem hac z, HMem.out z, HNX.out]
                constructor
                · rintro ((h | ⟨c, hc, h⟩) | h)
                  · exact .inl h
                  · exact .inr ⟨c, List.mem_append_left _ hc, h⟩
                  · exact .inr ⟨d, List.mem_append_right _ (by simp), h⟩
                · rintro (h | ⟨c, hc, h⟩)
                  · exact .inl (.inl h)
                  · rcases List.mem_append.1 hc with hc | hc
                    · exact .inl (.inr ⟨c, hc, h⟩)
                    · rw [List.mem_singleton] at hc
                      subst hc
                      exact .inr h : ∀ y, y ∈ O2 ↔ y ∈ o ∨ ∃ c ∈ r.c.take (i + 1), y = Rw.co c)
              have HRi2 : Hid (Rw.RiseN O2) := Rw.addC_rise HRi.out hac
              have HL2 : Hid (n' + 1 = O2.length) := (by have := HNl.out; rw [← hO2]; simp; omega : n' + 1 = O2.length)
              have HKl : Hid (k ≤ O.length) := f1
              have HLO : Hid (O.length ≤ 1000) := (by have := HNl.out; omega : O.length ≤ 1000)
              have HBs : Hid (wb.heap.size ≤ w3.heap.size) := (HXr.out.trans HX3.out).size
              have HX9 : Hid (Ex wb w3) := HXr.out.trans HX3.out
              clear f1 f2 f4 hac hO2
              go_wp2_with fail
              go_at_call 61
              refine (insert_is wb.heap.size (.slice a' n' c') O k (Rw.co d) _ HO3.out HBs.out HKl.out HLO.out).mono ?_
              rintro e w4 ⟨v4, rfl, ho4, hg4, _⟩
              rw [HO2.out] at ho4
              have HX4 : Hid (Ex wb w4) := (Below.grown HX9.out hg4 HBs.out (fun q hq => (HO3.out.lt q hq).1) : Ex wb w4)
              obtain ⟨a4, c4, rfl, _⟩ := ho4.rd kc_len
              rw [← HL2.out] at ho4 ⊢
              have HO4 : Hid (OwnK w4 wb.heap.size (.slice a4 (n' + 1) c4) O2) := ho4
              clear ho4 hg4
              go_wp2_with fail
              go_roundw
              case rel => exact ⟨i + 1, n' + 1, c4, a4, O2, by omega, by omega, by go_num, rfl, HL2, HAR2, HMem2, HRi2, HO4, HX4⟩
              case measure => simp [intOf]; omega
          · have hti : ¬ (i : Int) < (r.c.length : Int) := by omega
            have har := HAR.out
            rw [Rw.addR_end (by omega)] at har
            by_cases h12 : n' ≤ 12
            · have t1 : decide (12 < (n' : Int)) = false := by simp; omega
              have t2 : decide (12 < n') = false := by simp; omega
              have HF : Hid (Rw.growR o r = (some O, 0)) := (by unfold Rw.growR; rw [if_neg (by rw [HRT.out]; simp), ← har]; simp only []; rw [if_pos (by rw [← HNl.out]; exact h12)] : Rw.growR o r = (some O, 0))
              clear har
              go_wp2_with fail
              go_ret2
              exact GrR.good HF.out HOr.out HXr.out
            · have t1 : decide (12 < (n' : Int)) = true := by simp; omega
              have t2 : decide (12 < n') = true := by simp; omega
              have HF : Hid (Rw.growR o r = (none, 4)) := (by unfold Rw.growR; rw [if_neg (by rw [HRT.out]; simp), ← har]; simp only []; rw [if_neg (by rw [← HNl.out]; exact h12)] : Rw.growR o r = (none, 4))
              clear har
              go_wp2_with fail
              go_ret2
              exact GrR.bad HF.out HXr.out
set_option maxHeartbeats 8000000 in
set_option maxRecDepth 100000 in
theorem sgrow_is (a : Option Addr) (n cap : Nat) (cols : List Co) (a' : Option Addr) (n' cap' : Nat) (l : List Rw) (w : World) (hn : n = cols.length) (hn' : n' = l.length) (hB : RdK w a cap cols) (hB' : RdR w a' cap' l) (hc : ∀ c ∈ cols, c.nm.length ≤ maxLen ∧ In64 c.k) (hok : ∀ r ∈ l, RwOk r) (hcl : cols.length ≤ 1000) (hl : l.length ≤ 1000) (C : List Co) (e0 k0 : Nat) (hr : Rw.grow cols l = (C, e0, k0)) :
    Calls Try.prog 19 #[.slice a n cap, .slice a' n' cap'] w fun e w' => ∃ p c, e = .returned (.tuple #[.slice p C.length c, .int .i64 e0, .int .i64 k0]) ∧ RdK w' p c C ∧ Ex w w' := by
  subst hn'
  have HN : Hid (n = cols.length) := hn
  have HB : Hid (RdK w a cap cols) := hB
  have HBl : Hid (RdR w a' cap' l) := hB'
  obtain ⟨q1, q2, _⟩ := hB'.bounds
  unfold maxLen at q2
  have HC : Hid (∀ c ∈ cols, c.nm.length ≤ maxLen ∧ In64 c.k) := hc
  have HOK : Hid (∀ r ∈ l, RwOk r) := hok
  obtain ⟨ck, hck⟩ : ∃ b, Rw.colsOk cols = b := ⟨_, rfl⟩
  have HCK : Hid (Rw.colsOk cols = ck) := hck
  have HR : Hid (Rw.grow cols l = (C, e0, k0)) := hr
  have hn1000 : n ≤ 1000 := by omega
  clear hB hB' hc hok hck hr hn hcl
  go_enter Try.func19, Try.ntmps19
  go_wp2_with fail
  go_at_call 21
  refine (scols_is a n cap cols _ HN.out HB.out HC.out ck HCK.out).mono ?_
  rintro e w1 ⟨rfl, hx1⟩
  have HX1 : Hid (Ex w w1) := hx1
  have HB1 : Hid (RdK w1 a cap cols) := RdW.below HB.out hx1
  have hs1 : w.heap.size ≤ w1.heap.size := HX1.out.size
  clear hx1
  cases ck with
  | false =>
    have hg := HR.out
    unfold Rw.grow at hg
    rw [if_neg (by rw [HCK.out]; simp)] at hg
    simp only [Prod.mk.injEq] at hg
    obtain ⟨rfl, rfl, rfl⟩ := hg
    go_wp2_with fail
    go_ret3
    exact ⟨none, 0, rfl, RdW.nil _, HX1.out⟩
  | true =>
    have hg := HR.out
    unfold Rw.grow at hg
    rw [if_pos HCK.out] at hg
    have HG : Hid (Rw.growF 0 cols l = (C, e0, k0)) := hg
    clear hg
    have HOn : Hid (OwnK w1 w.heap.size (.slice none 0 0) []) := ownW_none _ _
    have hstep : ∀ v2 w2, OwnK w2 w.heap.size v2 ([] ++ cols) → w1.grownBy w2 none → ∃ a2 c2, v2 = .slice a2 n c2 ∧ Hid (OwnK w2 w.heap.size (.slice a2 n c2) cols) ∧ Hid (Ex w w2) := by
      intro v2 w2 ho2 hg2
      rw [List.nil_append] at ho2
      obtain ⟨a2, c2, rfl, _⟩ := ho2.rd kc_len
      rw [← HN.out] at ho2 ⊢
      exact ⟨a2, c2, rfl, ho2, Below.grown HX1.out hg2 hs1 (fun k hk => by simp at hk)⟩
    go_wp2_with (at_builtin; refine wpList_append_wide kc_len kc_one rfl (.const (.slice none 0 0)) (.tmp 14) 44 _ 24 rfl Try.underlying44 Try.info46 (by omega) rfl w.heap.size _ [] rfl HOn.out a n cap cols rfl HN.out HB1.out (by have := HN.out; simp [maxLen]; omega) (by have := HN.out; simp; omega) hs1 ?_; intro v2 w2 ho2 hg2 _; obtain ⟨a2, c2, rfl, HO2, HX2⟩ := hstep v2 w2 ho2 hg2; clear ho2 hg2)
    go_loopw [18, 7, 8, 9, 10] (fun iv vv jv rv yv wr => ∃ (i m c' : Nat) (b' : Option Addr) (O : List Co), i ≤ l.length ∧ iv = .int .i64 i ∧ vv = .slice b' m c' ∧ Hid (m = O.length) ∧ Hid (Rw.growF i O (l.drop i) = (C, e0, k0)) ∧ Hid (Rw.colsOk O = true) ∧ Hid (OwnK wr w.heap.size (.slice b' m c') O) ∧ Hid (Ex w wr)) (fun iv vv jv rv yv wr => l.length - (intOf iv).toNat)
    case atStart => exact ⟨0, n, c2, a2, cols, by omega, rfl, rfl, HN, (by simpa using HG.out : Rw.growF 0 cols (l.drop 0) = (C, e0, k0)), HCK, HO2, HX2⟩
    case round =>
      obtain ⟨i, m, c', b', O, hi, rfl, rfl, HM, HGF, HCO, HOr, HXr⟩ := hrel
      clear HO2 HX2 HG HOn
      by_cases hlt : i < l.length
      · have hti : (i : Int) < (l.length : Int) := by omega
        obtain ⟨us, hu1, hu2⟩ := HBl.out
        have hil : i < us.length := by rw [hu2.1]; exact hlt
        obtain ⟨b, off, hpp, ec⟩ := hu1.at hil
        obtain ⟨x, hx⟩ : ∃ x, l[i] = x := ⟨_, rfl⟩
        obtain ⟨vx, hvx⟩ : ∃ v, us[i] = v := ⟨_, rfl⟩
        have hok : RvOk w vx x := by rw [← hx, ← hvx]; exact hu2.2 i _ _ (List.getElem?_eq_getElem hil) (List.getElem?_eq_getElem hlt)
        rw [hvx] at ec
        obtain ⟨vt, vq, sp, sn, sc⟩ := vx
        have e0' : wr.cell? ⟨b, off + i * 3, none⟩ = some (.int .i64 vt) := cell_ex (ec 0 _ rfl) HXr.out
        have e1' : wr.cell? ⟨b, off + i * 3 + 1, none⟩ = some (.int .i64 vq) := cell_ex (ec 1 _ rfl) HXr.out
        have e2' : wr.cell? ⟨b, off + i * 3 + 2, none⟩ = some (.slice sp sn sc) := cell_ex (ec 2 _ rfl) HXr.out
        have HRV : Hid (RvOk w ⟨vt, vq, sp, sn, sc⟩ x) := hok
        have HXO : Hid (RwOk x) := HOK.out x (by rw [← hx]; exact List.getElem_mem hlt)
        have HGR : Hid (Rw.growF i O (l.drop i) = match Rw.growR O x with | (some n, _) => Rw.growF (i + 1) n (l.drop (i + 1)) | (none, e) => ([], e, i)) := (by rw [Rw.growF_growR hlt, hx] : Rw.growF i O (l.drop i) = match Rw.growR O x with | (some n, _) => Rw.growF (i + 1) n (l.drop (i + 1)) | (none, e) => ([], e, i))
        obtain ⟨w2, hw2⟩ : ∃ w2, wr.alloc (.cells #[.int .i64 vt, .int .i64 vq, .slice sp sn sc] 28) = w2 := ⟨_, rfl⟩
        have hx2 : Ex wr w2 := by rw [← hw2]; exact (Below.refl _ _).alloc (Nat.le_refl _) _
        have HL2 : Hid (LAt w2 wr.heap.size ⟨vt, vq, sp, sn, sc⟩) := (by rw [← hw2]; exact LAt.new wr ⟨vt, vq, sp, sn, sc⟩ : LAt w2 wr.heap.size ⟨vt, vq, sp, sn, sc⟩)
        have HX2 : Hid (Ex w w2) := HXr.out.trans hx2
        have HO2 : Hid (OwnK w2 w.heap.size (.slice b' m c') O) := HOr.out.later hx2
        obtain ⟨l0, l1, l2⟩ := HL2.out.all
        subst hpp
        clear hx hvx hok ec hu1 hu2 hil hx2
        go_wp2_with fail
        go_at_call 50
        refine (growBy_is w (.slice b' m c') O ⟨vt, vq, sp, sn, sc⟩ x _ HX2.out HO2.out HRV.out HXO.out HCO.out).mono ?_
        rintro e w3 ⟨v3, e3, rfl, h31, h32, h33, hx3⟩
        have HX3 : Hid (Ex w w3) := hx3
        obtain ⟨⟨gr1, gr2⟩, hgr⟩ : ∃ g, Rw.growR O x = g := ⟨_, rfl⟩
        rw [hgr] at h31 h32 h33
        simp only at h31 h32 h33
        subst h31
        have hGR := HGR.out
        rw [hgr, HGF.out] at hGR
        clear hx3 l0 l1 l2
        cases gr1 with
        | none =>
          have hv := h33 rfl
          subst hv
          simp only [Prod.mk.injEq] at hGR
          have HRES : Hid (C = [] ∧ e0 = gr2 ∧ k0 = i) := hGR
          have hne : gr2 ≠ 0 := by
            unfold Rw.growR at hgr
            split at hgr
            · cases hgr; simp
            · split at hgr
              · cases hgr; simp
              · split at hgr
                · cases hgr
                · cases hgr; simp
          have te : ((gr2 : Int) == 0) = false := by simp; omega
          have te2 : ((gr2 : Int) != 0) = true := by simp; omega
          clear hGR h32 h33 hgr hne
          go_wp2_with fail
          go_ret3
          obtain ⟨rfl, rfl, rfl⟩ := HRES.out
          exact ⟨none, 0, rfl, RdW.nil _, HX3.out⟩
        | some O2 =>
          have ho3 := h32 O2 rfl
          have hO2 : gr2 = 0 ∧ Rw.colsOk O2 = true := by
            unfold Rw.growR at hgr
            split at hgr
            · cases hgr
            · rename_i hrr
              split at hgr
              · cases hgr
              · rename_i n3 ha
                split at hgr
                · rename_i hn12
                  cases hgr
                  exact ⟨rfl, Rw.colsOk_add HCO.out (by simpa using hrr) ha hn12⟩
                · cases hgr
          obtain ⟨rfl, hc2⟩ := hO2
          have HC2 : Hid (Rw.colsOk O2 = true) := hc2
          have HGF2 : Hid (Rw.growF (i + 1) O2 (l.drop (i + 1)) = (C, e0, k0)) := hGR.symm
          obtain ⟨a4, c4, rfl, _⟩ := ho3.rd kc_len
          obtain ⟨m2, hm2⟩ : ∃ m2, O2.length = m2 := ⟨_, rfl⟩
          rw [hm2] at ho3 ⊢
          have HM2 : Hid (m2 = O2.length) := hm2.symm
          have HO3 : Hid (OwnK w3 w.heap.size (.slice a4 m2 c4) O2) := ho3
          clear ho3 hm2 hc2 hGR hgr h32 h33
          go_wp2_with fail
          go_roundw
          case rel => exact ⟨i + 1, m2, c4, a4, O2, by omega, by go_num, rfl, HM2, HGF2, HC2, HO3, HX3⟩
          case measure => simp [intOf]; omega
      · have hti : ¬ (i : Int) < (l.length : Int) := by omega
        have hg := HGF.out
        rw [Rw.growF_end (by omega)] at hg
        simp only [Prod.mk.injEq] at hg
        obtain ⟨a5, c5, hav, hrd⟩ := HOr.out.rd kc_len
        simp only [Value.slice.injEq] at hav
        have HRD : Hid (RdK wr b' c' O) := (by rw [hav.1, hav.2.2]; exact hrd : RdK wr b' c' O)
        have HRES : Hid (C = O ∧ e0 = 0 ∧ k0 = 0) := (⟨hg.1.symm, hg.2.1.symm, hg.2.2.symm⟩ : C = O ∧ e0 = 0 ∧ k0 = 0)
        clear hg hav hrd
        go_wp2_with fail
        go_ret3
        obtain ⟨rfl, rfl, rfl⟩ := HRES.out
        exact ⟨b', c', by rw [HM.out]; rfl, HRD.out, HXr.out⟩
end Go.Proofs.Ytghnbohplonhoaa
