/-
  'append(append(.. []T{}, a...), x), b...)' in a region whose order is open up to a tail: one row that grows step by step, one-element rows beside it, all other operations quiet.
-/
import Derived.Test.YtghnbohplonhoaaCat
namespace Go.Proofs.Ytghnbohplonhoaa
open Go.RowKit
set_option linter.unusedVariables false
set_option linter.unusedSimpArgs false
namespace Rg.Fr
section
variable {P : Program} {ops : Array Oper} {specs : List Spec} {a0 : Act} {C : World → Prop} {V : (Nat → Bool) → Act → World → Prop}
theorem rows_more_tail {Q : Exit → Act → World → Prop} {n : Nat} {t : List Oper} {hops : Array Oper} (hs : sound hops a0.tmps.size = true) (hsub : ∀ i, i < n → hops[i]? = ops[i]?)
    (hst : ∀ (j : Nat) (v : Value) (w w' : World), ((specs[j]?).getD (.inl undef)).ok v w → ((specs[j]?).getD (.inl undef)).ok v w')
    (hng : ∀ (i : Nat) (o : Oper), i < n → ops[i]? = some o → o.guard = none)
    (hsink : Region.sinkB .any ops n = true) (hchain : Region.chainB .any ops n = true) (hn : n < ops.size)
    (ht : ∀ j, t[j]? = ops[n + j]?) (hseq : Region.seqB .any ops t.length n (headDone ops.size n) = true)
    (hG : ∀ (i : Nat) (o : Oper) (L : Nat → Bool) (a : Act) (w : World), i < n → ops[i]? = some o → L i = false → (∀ e ∈ o.after, Region.binds .any e = true → L e.on = true) → a.tmps.size = a0.tmps.size → C w → (∀ x ∈ o.op.operands, (argS hops specs a0 x).ok (a.eval x) w) → V L a w →
      o.wp P a w (fun a' w' => ∃ v, a' = a.put o.dst v ∧ ((specs[i]?).getD (.inl undef)).ok v w' ∧ C w' ∧ V (upd i L) (a.put o.dst v) w') Q)
    (hF : ∀ (listed : Array Bool) (a : Act) (w : World), Inv hops specs a0 C listed a w → V (lst listed) a w → (∀ j, j < n → listed.getD j false = true) → wpList P ops Q t a w) :
    ∀ (fuel : Nat) (listed : Array Bool) (a : Act) (w : World), Inv hops specs a0 C listed a w → V (lst listed) a w → HeadInv .any ops n listed → cnt n (fun j => !listed.getD j true) = fuel → wpAny P .any ops Q (fuel + t.length) listed a w
  | 0, listed, a, w, h, hv, hh, hc => by
    rw [Nat.zero_add]
    have h1 : ∀ j, j < n → listed.getD j true = true := fun j hj => by
      have := cnt_zero _ _ hc j hj
      simpa using this
    have h1' : ∀ j, j < n → listed.getD j false = true := fun j hj => by
      have := h1 j hj
      have hj' : j < listed.size := by rw [hh.size]; omega
      simp [hj'] at this ⊢
      exact this
    have he := headDone_of hh.size h1 hh.tail
    exact wpAny_of_seq t n listed a w ht (by rw [he]; exact hseq) (hF listed a w h hv h1')
  | fuel + 1, listed, a, w, h, hv, hh, hc => by
    have hex : ∃ i, i < n ∧ listed.getD i true = false := by
      refine Classical.byContradiction fun hno => ?_
      have : cnt n (fun j => !listed.getD j true) = 0 := by
        rw [cnt_same n _ (fun _ => false) (fun j hj => ?_)]
        · exact cnt_none n
        · cases hl : listed.getD j true with
          | true => rfl
          | false => exact absurd ⟨j, hj, hl⟩ hno
      omega
    obtain ⟨i0, hi0, hun⟩ := hex
    rw [show fuel + 1 + t.length = (fuel + t.length) + 1 by omega]
    refine ⟨fun hr => ?_, fun i hi => ?_⟩
    · have := head_listed hs hsub (Nat.le_of_lt hn) hr hh.size i0 hi0
      rw [getD_both hun] at this
      cases this
    · have hin : i < n := by
        rcases Nat.lt_or_ge i n with h' | h'
        · exact h'
        · exact absurd hi (tail_waits hsink hchain hn hh _ i0 rfl hi0 hun i h')
      obtain ⟨h0, o, ho, hall⟩ := mem_ready.1 hi
      have hi2 : i < listed.size := by rw [hh.size]; omega
      have hho : hops[i]? = some o := by rw [hsub i hin]; exact ho
      have hnl : lst listed i = false := by unfold lst; simp [hi2] at h0 ⊢; exact h0
      have hw : Region.wanted o (yielded ops a.tmps) = true := by simp [Region.wanted, hng i o hin ho]
      have hsees := h.sees' hs hho hall
      unfold wpOp
      simp only [ho]
      rw [if_pos hw]
      refine .inl (Oper.wp_mono (fun a' w' hk => ?_) (hG i o (lst listed) a w hin ho hnl hall h.size h.cls (fun x hx => arg_ok hx hsees) hv))
      obtain ⟨v, rfl, hok, hC, hV⟩ := hk
      refine rows_more_tail hs hsub hst hng hsink hchain hn ht hseq hG hF fuel _ _ _ (h.step (E := fun _ _ => True) hs hho hi2 (fun j v w w' h1 _ => hst j v w w' h1) trivial hC hok) (by rw [lst_set hi2]; exact hV) (hh.set hi hin) ?_
      have hstep := cnt_step n (fun j => !listed.getD j true) (fun j => !(listed.setIfInBounds i true).getD j true) i hin (by simp [h0]) (by simp [hi2]) (fun j hj => by rw [getD_set_ne true (Ne.symm hj)])
      omega
end
/-- A region whose order is open up to its tail, by what is so of each listing. -/
theorem wp_free_tail {id : Nat} {Q : Exit → Act → World → Prop} {w : World} (l t : List Oper) {lt : List Oper} (hlt : lt = l ++ t) {a0 : Act} (V : (Nat → Bool) → Act → World → Prop) (C : World → Prop) (specs : List Spec) (n : Nat) (hm : Try.prog.follows .mixedOrders = true)
    (hn : a0.tmps.size = n) (hs : sound l.toArray n = true) (hsink : Region.sinkB .any lt.toArray l.length = true) (hchain : Region.chainB .any lt.toArray l.length = true)
    (hpos : 0 < t.length) (hseq : Region.seqB .any lt.toArray t.length l.length (headDone lt.toArray.size l.length) = true) (hst : Stands (fun _ _ => True) specs) (hng : l.all (fun o => o.guard.isNone) = true)
    (hC : C w.drew) (hV : V (fun _ => false) a0 w.drew)
    (hG : ∀ (i : Nat) (o : Oper) (L : Nat → Bool) (a : Act) (w' : World), l[i]? = some o → L i = false → (∀ e ∈ o.after, Region.binds .any e = true → L e.on = true) → a.tmps.size = n → C w' → (∀ x ∈ o.op.operands, (argS l.toArray specs a0 x).ok (a.eval x) w') → V L a w' →
      o.wp Try.prog a w' (fun a' w2 => ∃ v, a' = a.put o.dst v ∧ ((specs[i]?).getD (.inl undef)).ok v w2 ∧ C w2 ∧ V (upd i L) (a.put o.dst v) w2) Q)
    (hF : ∀ (w' : World), C w' → later w' (fun a' => (∃ L, (∀ j, j < l.length → L j = true) ∧ V L a' w') → wpList Try.prog lt.toArray Q t a' w') l specs a0) : (Code.region id lt.toArray true).wp Try.prog Q a0 w := by
  subst hn
  have hsize : lt.toArray.size = l.length + t.length := by simp [hlt]
  have hat : ∀ i, i < l.length → lt.toArray[i]? = l[i]? := fun i hi => by simp [hlt, List.getElem?_append_left hi]
  refine wp_region_any hm ?_
  have hcnt : cnt l.length (fun j => !(Array.replicate lt.toArray.size false).getD j true) = l.length := cnt_all _ _ (fun j hj => by
    have : j < lt.toArray.size := by omega
    simp at this
    simp [this])
  have hinv : HeadInv .any lt.toArray l.length (Array.replicate lt.toArray.size false) := by
    refine ⟨by simp, fun j oj _ hl => ?_, fun t' h1 h2 => ?_⟩
    · rw [getD_replicate_false] at hl; cases hl
    · simp at h2; simp [h2]
  have := rows_more_tail (P := Try.prog) (ops := lt.toArray) (hops := l.toArray) (specs := specs) (a0 := a0) (C := C) (V := V) (Q := Q) (n := l.length) (t := t) hs (fun i hi => by rw [hat i hi]; simp) (fun j v w w' h => stands_at specs hst j v w w' h trivial) ?hng hsink hchain (by omega)
    (fun j => by rw [hlt]; simp [List.getElem?_append_right]) hseq (fun i o L a w' hi ho => hG i o L a w' (by rw [← hat i hi]; exact ho)) ?hfin l.length (Array.replicate lt.toArray.size false) a0 w.drew ?hst0 ?hv0 hinv hcnt
  case hng =>
    intro i o hi ho
    rw [hat i hi] at ho
    have := List.all_eq_true.1 hng o (List.mem_of_getElem? ho)
    simpa using this
  case hfin =>
    intro listed a w' hI hV' hall
    have hwr : ∀ o ∈ l, ∀ d, o.dst = some d → ∃ j, j < l.length ∧ writer l.toArray d = some j := fun o ho d hd => by
      obtain ⟨j, hj⟩ := List.getElem?_of_mem ho
      have hjl := (List.getElem?_eq_some_iff.1 hj).1
      exact ⟨j, hjl, ((sound_at hs (i := j) (o := o) (by simpa using hj)).2.2 d hd).2⟩
    have hfill : fill (fun t => a.tmps.getD t undef) l a0 = a := by
      have hz := fill_size (fun t => a.tmps.getD t undef) l a0
      refine act_ext (hz.2.trans hI.defers.symm) (hz.1.trans hI.size.symm) fun d hd => ?_
      rw [hz.1] at hd
      by_cases hw : ∃ o ∈ l, o.dst = some d
      · rw [fill_same _ l a0 d hd hw]
        obtain ⟨o, ho, hod⟩ := hw
        obtain ⟨j, hj, hwj⟩ := hwr o ho d hod
        obtain ⟨v, hv, _⟩ := hI.done d j hwj (hall j hj)
        simp [hv, Array.getD_eq_getD_getElem?]
      · rw [fill_other _ l a0 d (fun o ho hod => hw ⟨o, ho, hod⟩)]
        refine (hI.slot d fun j hj => ?_).symm
        obtain ⟨o, ho, hod⟩ := writer_some hj
        exact absurd ⟨o, List.mem_of_getElem? (by simpa using ho), hod⟩ hw
    have h := later_fill (w := w') (K := fun a' => (∃ L, (∀ j, j < l.length → L j = true) ∧ V L a' w') → wpList Try.prog lt.toArray Q t a' w') (fun t => a.tmps.getD t undef) l specs a0 (hF w' hI.cls) (fun j o d s ho hd hss => by
      have hjl := (List.getElem?_eq_some_iff.1 ho).1
      have hw := ((sound_at hs (i := j) (o := o) (by simpa using ho)).2.2 d hd).2
      obtain ⟨v, hv, hk⟩ := hI.done d j hw (hall j hjl)
      rw [hss] at hk
      simpa [hv, Array.getD_eq_getD_getElem?] using hk)
    rw [hfill] at h
    exact h ⟨lst listed, hall, hV'⟩
  case hst0 => exact ⟨hC, rfl, rfl, fun t _ => rfl, fun t j _ hl => by rw [getD_replicate_false] at hl; cases hl⟩
  case hv0 =>
    have hr : lst (Array.replicate lt.toArray.size false) = fun _ => false := by
      funext j
      unfold lst
      rw [getD_replicate_false]
    rw [hr]
    exact hV
  rw [← hsize] at this
  exact this
section
variable {α : Type} {k : Nat} {fl : α → List Value} {t : TypeId}
/-- A step of the chain: the operation's place, the slot that it writes, what is owned behind it. -/
abbrev Link (α : Type) := Nat × Nat × List α
def Cur (cs : List (Link α)) (L : Nat → Bool) (c : Link α) : Prop := ∃ j, cs[j]? = some c ∧ L c.1 = true ∧ ∀ c', cs[j + 1]? = some c' → L c'.1 = false
structure ChainV (t : TypeId) (k : Nat) (fl : α → List Value) (cs : List (Link α)) (ls : List (Nat × Nat × α)) (base : Nat) (L : Nat → Bool) (a : Act) (w : World) : Prop where
  mono : ∀ j c c', cs[j]? = some c → cs[j + 1]? = some c' → L c'.1 = true → L c.1 = true
  own : ∀ c, Cur cs L c → ∃ v, a.tmps[c.2.1]? = some v ∧ OwnW t k fl w base v c.2.2
  lit : ∀ q ∈ ls, L q.1 = true → ∃ g, a.tmps[q.2.1]? = some (.slice (some ⟨g, 0, none⟩) 1 1) ∧ g < w.heap.size ∧ RdW k fl w (some ⟨g, 0, none⟩) 1 [q.2.2] ∧ ∀ c, Cur cs L c → ∀ v, a.tmps[c.2.1]? = some v → v.ownBlock ≠ some g
abbrev idxs (cs : List (Link α)) (ls : List (Nat × Nat × α)) : List Nat := cs.map (·.1) ++ ls.map (·.1)
abbrev dsts (cs : List (Link α)) (ls : List (Nat × Nat × α)) : List Nat := cs.map (·.2.1) ++ ls.map (·.2.1)
theorem ChainV.down {cs : List (Link α)} {ls : List (Nat × Nat × α)} {base : Nat} {L : Nat → Bool} {a : Act} {w : World} (h : ChainV t k fl cs ls base L a w) {i j : Nat} {c c' : Link α} (hij : i ≤ j) (hi : cs[i]? = some c) (hj : cs[j]? = some c') (hL : L c'.1 = true) : L c.1 = true := by
  induction j generalizing c' with
  | zero =>
    obtain rfl : i = 0 := by omega
    rw [hi] at hj
    cases hj
    exact hL
  | succ j ih =>
    by_cases e : i = j + 1
    · subst e
      rw [hi] at hj
      cases hj
      exact hL
    · have hjl : j < cs.length := by have := (List.getElem?_eq_some_iff.1 hj).1; omega
      exact ih (by omega) (List.getElem?_eq_getElem hjl) (h.mono j _ _ (List.getElem?_eq_getElem hjl) hj hL)
theorem nodup_idx {cs : List (Link α)} {ls : List (Nat × Nat × α)} (hI : (idxs cs ls).Nodup) {i j : Nat} {c c' : Link α} (hi : cs[i]? = some c) (hj : cs[j]? = some c') (h : i ≠ j) : c.1 ≠ c'.1 := by
  have h1 := (List.nodup_append.1 hI).1
  intro e
  refine h ((List.getElem?_inj (i := i) (j := j) ?_ h1).1 ?_)
  · simp; exact (List.getElem?_eq_some_iff.1 hi).1
  · simp [hi, hj, e]
theorem nodup_dst {cs : List (Link α)} {ls : List (Nat × Nat × α)} (hD : (dsts cs ls).Nodup) {i j : Nat} {c c' : Link α} (hi : cs[i]? = some c) (hj : cs[j]? = some c') (h : i ≠ j) : c.2.1 ≠ c'.2.1 := by
  have h1 := (List.nodup_append.1 hD).1
  intro e
  refine h ((List.getElem?_inj (i := i) (j := j) ?_ h1).1 ?_)
  · simp; exact (List.getElem?_eq_some_iff.1 hi).1
  · simp [hi, hj, e]
theorem nodup_il {cs : List (Link α)} {ls : List (Nat × Nat × α)} (hI : (idxs cs ls).Nodup) {c : Link α} {q : Nat × Nat × α} (hc : c ∈ cs) (hq : q ∈ ls) : c.1 ≠ q.1 :=
  (List.nodup_append.1 hI).2.2 c.1 (List.mem_map_of_mem hc) q.1 (List.mem_map_of_mem hq)
theorem nodup_dl {cs : List (Link α)} {ls : List (Nat × Nat × α)} (hD : (dsts cs ls).Nodup) {c : Link α} {q : Nat × Nat × α} (hc : c ∈ cs) (hq : q ∈ ls) : c.2.1 ≠ q.2.1 :=
  (List.nodup_append.1 hD).2.2 c.2.1 (List.mem_map_of_mem hc) q.2.1 (List.mem_map_of_mem hq)
theorem cur_same {cs : List (Link α)} {L : Nat → Bool} {i : Nat} {c : Link α} (hi : ∀ c ∈ cs, c.1 ≠ i) (h : Cur cs (upd i L) c) : Cur cs L c := by
  obtain ⟨j, h1, h2, h3⟩ := h
  refine ⟨j, h1, ?_, fun c' hc' => ?_⟩
  · rw [upd_ne (Ne.symm (hi c (List.mem_of_getElem? h1)))] at h2; exact h2
  · have := h3 c' hc'
    rw [upd_ne (Ne.symm (hi c' (List.mem_of_getElem? hc')))] at this
    exact this
/-- One step: what the next link's operation is, and what is added. -/
def LinkOk (k : Nat) (fl : α → List Value) (S : TypeId) (l : List Oper) (specs : List Spec) (a0 : Act) (w : World) (ls : List (Nat × Nat × α)) (c c' : Link α) : Prop := ∃ o s, l[c'.1]? = some o ∧ o.dst = some c'.2.1 ∧ o.op = .call { callee := .builtin .append, args := #[.tmp c.2.1, .tmp s], argTypes := #[S, S] } ∧ o.after.any (fun e => Region.binds .any e && e.on == c.1) = true ∧
  ((∃ p n cp ys, argS l.toArray specs a0 (.tmp s) = .inl (.slice p n cp) ∧ n = List.length ys ∧ RdW k fl w p cp ys ∧ c'.2.2 = c.2.2 ++ ys) ∨ (∃ q ∈ ls, s = q.2.1 ∧ o.after.any (fun e => Region.binds .any e && e.on == q.1) = true ∧ c'.2.2 = c.2.2 ++ [q.2.2]))
set_option maxHeartbeats 4000000 in
theorem wp_chain (hk : ∀ x, (fl x).length = k) (h1 : ∀ x, ∀ u ∈ fl x, u.oneCell' = true) (S : TypeId) (z : Value) (B : Nat) (hS : Try.prog.underlying S = some (.slice t)) (hinfo : (Try.prog.info? t).map (fun i => (i.zero, i.size, i.bytes)) = some (some z, k, B)) (hk0 : 0 < k) (hzc : z.cells.size = k) (hB2 : B ≤ 100)
    {id : Nat} {Q : Exit → Act → World → Prop} {w : World} {a0 : Act} (l tl : List Oper) {lt : List Oper} (hlt : lt = l ++ tl) (cs : List (Link α)) (ls : List (Nat × Nat × α)) (n : Nat) (hm : Try.prog.follows .mixedOrders = true) (hn : a0.tmps.size = n) (hs : sound l.toArray n = true)
    (hsink : Region.sinkB .any lt.toArray l.length = true) (hchain : Region.chainB .any lt.toArray l.length = true) (hpos : 0 < tl.length) (hseq : Region.seqB .any lt.toArray tl.length l.length (headDone lt.toArray.size l.length) = true) (hng : l.all (fun o => o.guard.isNone) = true)
    (hI : (idxs cs ls).Nodup) (hD : (dsts cs ls).Nodup) (hDn : ∀ d ∈ dsts cs ls, d < n)
    (specs : List Spec) (hst : Stands (fun _ _ => True) specs) (hT : ∀ i ∈ idxs cs ls, specs[i]? = some T2) (hlen : ∀ c ∈ cs, c.2.2.length ≤ 200000)
    (c0 : Link α) (h0 : cs[0]? = some c0) (h00 : c0.2.2 = []) (oE : Oper) (lE : l[c0.1]? = some oE) (qE : oE.dst = some c0.2.1) (rE : ∀ (ρ : Operand → Value) (w' : World), (execOp ρ oE).run Try.prog w' = .ok (.value (.slice (some ⟨w'.heap.size, 0, none⟩) 0 0)) (w'.alloc (.cells #[] t)))
    (hL : ∀ j c c', cs[j]? = some c → cs[j + 1]? = some c' → LinkOk k fl S l specs a0 w ls c c')
    (hls : ∀ q ∈ ls, ∃ o, l[q.1]? = some o ∧ o.dst = some q.2.1 ∧ ∀ (ρ : Operand → Value) (w' : World), (∀ x ∈ o.op.operands, (argS l.toArray specs a0 x).ok (ρ x) w') → (execOp ρ o).run Try.prog w' = .ok (.value (.slice (some ⟨w'.heap.size, 0, none⟩) 1 1)) (w'.alloc (.cells (fl q.2.2).toArray t)))
    (hdst : ∀ i o, l[i]? = some o → i ∉ idxs cs ls → ∀ d ∈ dsts cs ls, o.dst ≠ some d)
    (hQ : ∀ i o, l[i]? = some o → i ∉ idxs cs ls → ∀ (ρ : Operand → Value) (w' : World), Ex w w' → (∀ x ∈ o.op.operands, (argS l.toArray specs a0 x).ok (ρ x) w') → ∃ v, (execOp ρ o).run Try.prog w' = .ok (.value v) w' ∧ ((specs[i]?).getD (.inl undef)).ok v w')
    (cz : Link α) (hz : cs.getLast? = some cz)
    (hF : ∀ (w' : World), Ex w w' → later w' (fun a' => ∀ v, a'.tmps[cz.2.1]? = some v → OwnW t k fl w' w.heap.size v cz.2.2 → wpList Try.prog lt.toArray Q tl a' w') l specs a0) : (Code.region id lt.toArray true).wp Try.prog Q a0 w := by
  have memC : ∀ {j : Nat} {c : Link α}, cs[j]? = some c → c ∈ cs := fun h => List.mem_of_getElem? h
  have inI : ∀ {c : Link α}, c ∈ cs → c.1 ∈ idxs cs ls := fun h => List.mem_append_left _ (List.mem_map_of_mem h)
  have inD : ∀ {c : Link α}, c ∈ cs → c.2.1 ∈ dsts cs ls := fun h => List.mem_append_left _ (List.mem_map_of_mem h)
  have inIl : ∀ {q : Nat × Nat × α}, q ∈ ls → q.1 ∈ idxs cs ls := fun h => List.mem_append_right _ (List.mem_map_of_mem h)
  have inDl : ∀ {q : Nat × Nat × α}, q ∈ ls → q.2.1 ∈ dsts cs ls := fun h => List.mem_append_right _ (List.mem_map_of_mem h)
  refine wp_free_tail l tl hlt (ChainV t k fl cs ls w.heap.size) (Ex w) specs n hm hn hs hsink hchain hpos hseq hst hng (Ex.drew w) ?_ ?_ ?_
  · exact ⟨fun _ _ _ _ _ h => (by cases h), fun c ⟨_, _, h, _⟩ => (by cases h), fun q _ h => (by cases h)⟩
  · intro i o L a w' ho hLi hdep hsz hx hargs hv
    have hbs : w.heap.size ≤ w'.heap.size := hx.size
    have hal : ∀ ob, Ex w' (w'.alloc ob) := fun ob => (Below.refl _ _).alloc (Nat.le_refl _) ob
    by_cases hin : i ∈ idxs cs ls
    · rcases List.mem_append.1 hin with hic | hil
      · obtain ⟨c', hc', hci⟩ := List.mem_map.1 hic
        subst hci
        obtain ⟨j, hj⟩ := List.getElem?_of_mem hc'
        -- what stands behind it is not listed yet
        have hlater : ∀ j' c2, j ≤ j' → cs[j']? = some c2 → L c2.1 = false := fun j' c2 hjj h2 => by
          cases e : L c2.1 with
          | false => rfl
          | true => rw [hv.down hjj hj h2 e] at hLi; cases hLi
        have hmono : (∀ c, j ≠ 0 → cs[j - 1]? = some c → L c.1 = true) → ∀ j1 c c2, cs[j1]? = some c → cs[j1 + 1]? = some c2 → upd c'.1 L c2.1 = true → upd c'.1 L c.1 = true := fun hpre j1 c c2 h2 h3 h4 => by
          by_cases e : j1 = j
          · subst e; rw [hj] at h2; cases h2; exact upd_self _ _
          · rw [upd_ne (nodup_idx hI hj h2 (Ne.symm e))]
            by_cases e2 : j1 + 1 = j
            · refine hpre c (by omega) ?_
              rw [show j - 1 = j1 by omega]; exact h2
            · rw [upd_ne (nodup_idx hI hj h3 (Ne.symm e2))] at h4
              exact hv.mono j1 c c2 h2 h3 h4
        have hcur : (∀ c, j ≠ 0 → cs[j - 1]? = some c → L c.1 = true) → ∀ c, Cur cs (upd c'.1 L) c → c = c' := fun hpre c ⟨j1, h2, h3, h4⟩ => by
          by_cases e : j1 = j
          · subst e; rw [hj] at h2; cases h2; rfl
          · rw [upd_ne (nodup_idx hI hj h2 (Ne.symm e))] at h3
            exfalso
            rcases Nat.lt_or_ge j1 j with h5 | h5
            · have hl1 : j1 + 1 < cs.length := by have := (List.getElem?_eq_some_iff.1 hj).1; omega
              have h6 := h4 _ (List.getElem?_eq_getElem hl1)
              by_cases e2 : j1 + 1 = j
              · have h7 : cs[j1 + 1] = c' := by
                  have := hj
                  rw [← e2, List.getElem?_eq_getElem hl1] at this
                  exact Option.some.inj this
                rw [h7, upd_self] at h6
                cases h6
              · rw [upd_ne (nodup_idx hI hj (List.getElem?_eq_getElem hl1) (Ne.symm e2))] at h6
                have h8 : L cs[j1 + 1].1 = true := by
                  have hjm : j - 1 < cs.length := by have := (List.getElem?_eq_some_iff.1 hj).1; omega
                  exact hv.down (i := j1 + 1) (j := j - 1) (by omega) (List.getElem?_eq_getElem hl1) (List.getElem?_eq_getElem hjm) (hpre _ (by omega) (List.getElem?_eq_getElem hjm))
                rw [h8] at h6
                cases h6
            · rw [hlater j1 c h5 h2] at h3; cases h3
        by_cases hj0 : j = 0
        · subst hj0
          rw [h0] at hj
          cases hj
          rw [lE] at ho
          cases ho
          have hpre : ∀ c, 0 ≠ 0 → cs[0 - 1]? = some c → L c.1 = true := fun c h => absurd rfl h
          refine wp_val (rE _ _) ⟨_, rfl, by rw [hT _ (inI hc')]; trivial, hx.trans (hal _), hmono hpre, fun c hc => ?_, fun q hq hLq => ?_⟩
          · rw [hcur hpre c hc, qE, h00]
            exact ⟨_, put_same a _ (by rw [hsz]; exact hDn _ (inD hc')), ownW_empty w' _ hbs⟩
          · rw [upd_ne (nodup_il hI hc' hq)] at hLq
            obtain ⟨g, e1, e2, e3, _⟩ := hv.lit q hq hLq
            rw [qE]
            refine ⟨g, by rw [put_other a _ (by simp; exact nodup_dl hD hc' hq)]; exact e1, by simp; omega, e3.below (hal _), fun c hc v hvv => ?_⟩
            rw [hcur hpre c hc, put_same a _ (by rw [hsz]; exact hDn _ (inD hc'))] at hvv
            cases hvv
            simp [Value.ownBlock]
            omega
        · have hjm : j - 1 < cs.length := by have := (List.getElem?_eq_some_iff.1 hj).1; omega
          have hjj : j - 1 + 1 = j := by omega
          obtain ⟨c, hc⟩ : ∃ c, cs[j - 1]? = some c := ⟨_, List.getElem?_eq_getElem hjm⟩
          obtain ⟨o', s, ho', hod, hop, hdc, hadd⟩ := hL (j - 1) c c' hc (by rw [hjj]; exact hj)
          rw [ho'] at ho
          cases ho
          have hLc : L c.1 = true := dep_of hdc hdep
          have hpre : ∀ c2, j ≠ 0 → cs[j - 1]? = some c2 → L c2.1 = true := fun c2 _ h2 => by rw [hc] at h2; cases h2; exact hLc
          have hcurc : Cur cs L c := ⟨j - 1, hc, hLc, fun c2 h2 => by rw [hjj, hj] at h2; cases h2; exact hLi⟩
          obtain ⟨v, e1, e2⟩ := hv.own c hcurc
          have hlc' := hlen c' hc'
          have harg : ∃ p n' cp ys, a.eval (.tmp s) = .slice p n' cp ∧ n' = List.length ys ∧ RdW k fl w' p cp ys ∧ c'.2.2 = c.2.2 ++ ys := by
            rcases hadd with ⟨p, n', cp, ys, g1, g2, g3, g4⟩ | ⟨q, hq, g1, g2, g3⟩
            · have hq := hargs (.tmp s) (by rw [hop]; simp [Op.operands, Call.operands])
              rw [g1] at hq
              exact ⟨p, n', cp, ys, hq, g2, g3.below hx, g4⟩
            · have hLq := dep_of g2 hdep
              obtain ⟨g, f1, f2, f3, _⟩ := hv.lit q hq hLq
              subst g1
              exact ⟨_, 1, 1, [q.2.2], eval_tmp f1, rfl, f3, g3⟩
          obtain ⟨p, n', cp, ys, ea, hny, hrd, hcat⟩ := harg
          have hlen2 : c.2.2.length + ys.length ≤ 200000 := by rw [hcat, List.length_append] at hlc'; exact hlc'
          obtain ⟨v', w2, hr, hown', hg', hat⟩ := run_app' hk h1 S z B hS hinfo hk0 hzc e2 hny hrd (by simp [maxLen]; omega) (by have h3 : (c.2.2.length + ys.length) * B ≤ 200000 * 100 := Nat.mul_le_mul hlen2 hB2; omega) hbs o.type
          rw [← hcat] at hown'
          refine wp_val (run_append' a.eval w' w2 (.tmp c.2.1) (.tmp s) S _ _ v' hop (eval_tmp e1) ea hr) ⟨_, rfl, by rw [hT _ (inI hc')]; trivial, hx.grown hg' hbs (fun q hq => (e2.lt q hq).1), hmono hpre, fun c2 hc2 => ?_, fun q hq hLq => ?_⟩
          · rw [hcur hpre c2 hc2, hod]
            exact ⟨v', put_same a _ (by rw [hsz]; exact hDn _ (inD hc')), hown'⟩
          · rw [upd_ne (nodup_il hI hc' hq)] at hLq
            obtain ⟨g, f1, f2, f3, f4⟩ := hv.lit q hq hLq
            have hsep := f4 c hcurc v e1
            rw [hod]
            refine ⟨g, by rw [put_other a _ (by simp; exact nodup_dl hD hc' hq)]; exact f1, Nat.lt_of_lt_of_le f2 hg'.size, f3.far hg' (fun _ b off hbo => by cases hbo; exact hsep), fun c2 hc2 v2 hvv => ?_⟩
            rw [hcur hpre c2 hc2, put_same a _ (by rw [hsz]; exact hDn _ (inD hc'))] at hvv
            cases hvv
            rcases hat with hat | hat
            · rw [hat]; exact hsep
            · rw [hat]; simp; omega
      · obtain ⟨q, hq, hqi⟩ := List.mem_map.1 hil
        subst hqi
        obtain ⟨o', ho', hod, hrun⟩ := hls q hq
        rw [ho'] at ho
        cases ho
        have hne : ∀ c ∈ cs, c.1 ≠ q.1 := fun c hc => nodup_il hI hc hq
        refine wp_val (hrun _ _ hargs) ⟨_, rfl, by rw [hT _ (inIl hq)]; trivial, hx.trans (hal _), fun j1 c c2 h2 h3 h4 => ?_, fun c hc => ?_, fun q2 hq2 hLq => ?_⟩
        · rw [upd_ne (Ne.symm (hne c (memC h2)))]
          rw [upd_ne (Ne.symm (hne c2 (memC h3)))] at h4
          exact hv.mono j1 c c2 h2 h3 h4
        · obtain ⟨v, e1, e2⟩ := hv.own c (cur_same hne hc)
          obtain ⟨j1, hj1, _⟩ := hc
          rw [hod]
          exact ⟨v, by rw [put_other a _ (by simp; exact Ne.symm (nodup_dl hD (memC hj1) hq))]; exact e1, e2.alloc _⟩
        · have hsepnew : ∀ c, Cur cs L c → ∀ v, (a.put o.dst (.slice (some ⟨w'.heap.size, 0, none⟩) 1 1)).tmps[c.2.1]? = some v → v.ownBlock ≠ some w'.heap.size := fun c hc v hvv => by
            obtain ⟨v2, e1, e2⟩ := hv.own c hc
            obtain ⟨j1, hj1, _⟩ := hc
            rw [hod, put_other a _ (by simp; exact Ne.symm (nodup_dl hD (memC hj1) hq)), e1] at hvv
            cases hvv
            intro e
            have := (e2.lt _ e).2
            omega
          by_cases e : q2.2.1 = q.2.1
          · -- the same one
            have hqq : q2 = q := by
              have hDl := (List.nodup_append.1 hD).2.1
              obtain ⟨m2, hm2⟩ := List.getElem?_of_mem hq2
              obtain ⟨m1, hm1⟩ := List.getElem?_of_mem hq
              have : m2 = m1 := (List.getElem?_inj (by simp; exact (List.getElem?_eq_some_iff.1 hm2).1) hDl).1 (by simp [hm1, hm2, e])
              subst this
              rw [hm1] at hm2
              exact (Option.some.inj hm2).symm
            subst hqq
            refine ⟨w'.heap.size, by rw [hod]; exact put_same a _ (by rw [hsz]; exact hDn _ (inDl hq)), by simp, ?_, fun c hc => hsepnew c (cur_same hne hc)⟩
            have h := RdW.laid (t := t) hk w' [q2.2.2] (by simp)
            simpa [flat] using h
          · have hi2 : q2.1 ≠ q.1 := by
              intro e2
              have hIl := (List.nodup_append.1 hI).2.1
              obtain ⟨m2, hm2⟩ := List.getElem?_of_mem hq2
              obtain ⟨m1, hm1⟩ := List.getElem?_of_mem hq
              have : m2 = m1 := (List.getElem?_inj (by simp; exact (List.getElem?_eq_some_iff.1 hm2).1) hIl).1 (by simp [hm1, hm2, e2])
              subst this
              rw [hm1] at hm2
              exact e (by rw [Option.some.inj hm2])
            rw [upd_ne (Ne.symm hi2)] at hLq
            obtain ⟨g, f1, f2, f3, f4⟩ := hv.lit q2 hq2 hLq
            rw [hod]
            refine ⟨g, by rw [put_other a _ (by simp; exact fun h => e h.symm)]; exact f1, by simp; omega, f3.below (hal _), fun c hc v hvv => ?_⟩
            have hc' := cur_same hne hc
            obtain ⟨j1, hj1, _⟩ := hc
            rw [put_other a _ (by simp; exact Ne.symm (nodup_dl hD (memC hj1) hq))] at hvv
            exact f4 c hc' v hvv
    · obtain ⟨v, hr, hok⟩ := hQ i o ho hin a.eval w' hx hargs
      have hne : ∀ c ∈ cs, c.1 ≠ i := fun c hc e => hin (by rw [← e]; exact inI hc)
      have hnd := hdst i o ho hin
      refine wp_val hr ⟨v, rfl, hok, hx, fun j1 c c2 h2 h3 h4 => ?_, fun c hc => ?_, fun q hq hLq => ?_⟩
      · rw [upd_ne (Ne.symm (hne c (memC h2)))]
        rw [upd_ne (Ne.symm (hne c2 (memC h3)))] at h4
        exact hv.mono j1 c c2 h2 h3 h4
      · obtain ⟨v2, e1, e2⟩ := hv.own c (cur_same hne hc)
        obtain ⟨j1, hj1, _⟩ := hc
        exact ⟨v2, by rw [put_other a _ (hnd _ (inD (memC hj1)))]; exact e1, e2⟩
      · rw [upd_ne (fun e => hin (by rw [e]; exact inIl hq))] at hLq
        obtain ⟨g, f1, f2, f3, f4⟩ := hv.lit q hq hLq
        refine ⟨g, by rw [put_other a _ (hnd _ (inDl hq))]; exact f1, f2, f3, fun c hc v2 hvv => ?_⟩
        have hc' := cur_same hne hc
        obtain ⟨j1, hj1, _⟩ := hc
        rw [put_other a _ (hnd _ (inD (memC hj1)))] at hvv
        exact f4 c hc' v2 hvv
  · intro w' hx
    refine later_mono ?_ _ _ _ (hF w' hx)
    rintro a' h ⟨L, hLl, hV⟩
    have hzl : cs[cs.length - 1]? = some cz := by rw [← List.getLast?_eq_getElem?]; exact hz
    have hne : 0 < cs.length := by have := (List.getElem?_eq_some_iff.1 h0).1; omega
    have hLz : L cz.1 = true := by
      refine hLl _ ?_
      by_cases e : cs.length = 1
      · rw [show cs.length - 1 = 0 by omega, h0] at hzl
        cases hzl
        exact (List.getElem?_eq_some_iff.1 lE).1
      · obtain ⟨c, hc⟩ : ∃ c, cs[cs.length - 2]? = some c := ⟨_, List.getElem?_eq_getElem (by omega)⟩
        obtain ⟨o, s, ho, _⟩ := hL (cs.length - 2) c cz hc (by rw [show cs.length - 2 + 1 = cs.length - 1 by omega]; exact hzl)
        exact (List.getElem?_eq_some_iff.1 ho).1
    obtain ⟨v, q1, q2⟩ := hV.own cz ⟨cs.length - 1, hzl, hLz, fun c' hc' => by have := (List.getElem?_eq_some_iff.1 hc').1; omega⟩
    exact h v q1 q2
end
end Rg.Fr
end Go.Proofs.Ytghnbohplonhoaa
