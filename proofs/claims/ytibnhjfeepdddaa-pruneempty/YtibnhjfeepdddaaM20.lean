/-
  Predicates that a call makes: lists of its own, what lies in them elsewhere; one laid by itself, in a region whose order is open. No function of the program here. Taken out of another text of mine: Rput. Taken out of another text of mine: Rins.
-/
import Derived.Test.YtibnhjfeepdddaaM19
import Derived.Test.YtibnhjfeepdddaaM02
import Derived.Test.YtibnhjfeepdddaaM12
import Derived.Test.YtibnhjfeepdddaaM04
import Derived.Test.YtibnhjfeepdddaaM01
import Derived.Test.YtibnhjfeepdddaaM13
namespace Go.Proofs.Ytibnhjfeepdddaa
open Go.RowKit
set_option linter.unusedVariables false
set_option linter.unusedSimpArgs false
theorem Try.info40 : (Try.prog.info? 40).map (fun i => (i.zero, i.size, i.bytes)) = some (some (.agg #[.int .i64 0, .string ⟨#[]⟩, .int .i64 0, .int .i64 0, .string ⟨#[]⟩, .slice none 0 0, .slice none 0 0]), 7, 104) := by kernel_rfl
theorem Try.info9 : (Try.prog.info? 9).map (fun i => (i.zero, i.size, i.bytes)) = some (some (.string ⟨#[]⟩), 1, 16) := by kernel_rfl
namespace Pd
/-- A call's own predicates; what is in them lies in such blocks, and not in theirs. -/
def OwnQ (B : Nat → Prop) (w : World) (base : Nat) (v : Value) (l : List Pr) : Prop := ∃ vs, OwnW 40 7 pc w base v vs ∧ Lays (fun b => v.ownBlock ≠ some b ∧ B b) w vs l
theorem OwnQ.rd {B : Nat → Prop} {w : World} {base : Nat} {v : Value} {l : List Pr} (h : OwnQ B w base v l) : ∃ a cap vs, v = .slice a l.length cap ∧ RdW 7 pc w a cap vs ∧ Lays B w vs l := by
 obtain ⟨vs, h1, h2⟩ := h
 obtain ⟨a, cap, rfl, h3⟩ := h1.rd pc_len
 exact ⟨a, cap, vs, by rw [h2.1], h3, h2.mono fun _ hb => hb.2⟩
theorem OwnQ.nil (B : Nat → Prop) (w : World) (base : Nat) : OwnQ B w base (.slice none 0 0) [] := ⟨[], ownW_none w base, Lays.nil _ w⟩
theorem OwnQ.later {B : Nat → Prop} {w w' : World} {base : Nat} {v : Value} {l : List Pr} (h : OwnQ B w base v l) (hx : Ex w w') : OwnQ B w' base v l := by
 obtain ⟨vs, h1, h2⟩ := h
 exact ⟨vs, h1.later hx, h2.below hx⟩
theorem OwnQ.lt {B : Nat → Prop} {w : World} {base : Nat} {v : Value} {l : List Pr} (h : OwnQ B w base v l) : ∀ g, v.ownBlock = some g → base ≤ g ∧ g < w.heap.size := by
 obtain ⟨vs, h1, _⟩ := h
 exact h1.lt
/-- Another block is written. -/
theorem OwnQ.far {B : Nat → Prop} {w : World} {base g j : Nat} {v u : Value} {l : List Pr} (h : OwnQ B w base v l) (hg : v.ownBlock ≠ some g) (hB : ¬ B g) : OwnQ B (w.setCell ⟨g, j, none⟩ u) base v l := by
 obtain ⟨vs, h1, h2⟩ := h
 exact ⟨vs, h1.apart hg, h2.far (row := some g) (fun b hb e => hB (by simp at e; rw [e]; exact hb.2)) (grown_set1 w g j u)⟩
theorem OwnQ.mono {B C : Nat → Prop} (hB : ∀ b, B b → C b) {w : World} {base : Nat} {v : Value} {l : List Pr} (h : OwnQ B w base v l) : OwnQ C w base v l := by
 obtain ⟨vs, h1, h2⟩ := h
 exact ⟨vs, h1, h2.mono fun b hb => ⟨hb.1, hB b hb.2⟩⟩
theorem OwnQ.ltB {B : Nat → Prop} {w : World} {base : Nat} {v : Value} {l : List Pr} (h : OwnQ B w base v l) : OwnQ (fun b => B b ∧ b < w.heap.size) w base v l := by
 obtain ⟨vs, h1, h2⟩ := h
 exact ⟨vs, h1, h2.lt.mono fun b hb => ⟨hb.1.1, hb.1.2, hb.2⟩⟩
theorem OwnQ.grown {B : Nat → Prop} {w w' : World} {base g : Nat} {v : Value} {l : List Pr} (h : OwnQ B w base v l) (hg : w.grownBy w' (some g)) (hne : v.ownBlock ≠ some g) (hB : ¬ B g) : OwnQ B w' base v l := by
 obtain ⟨vs, h1, h2⟩ := h
 exact ⟨vs, World.ownsRow.kept h1 hg (.inr hne), h2.far (fun b hb e => hB (by simp at e; rw [e]; exact hb.2)) hg⟩
theorem lays_afterQ {B : Nat → Prop} {w w' : World} {v v' : Value} {vs : List PV} {l : List Pr} (h : Lays (fun b => v.ownBlock ≠ some b ∧ B b) w vs l) (hg : w.grownBy w' v.ownBlock) (hat : v'.ownBlock = v.ownBlock ∨ v'.ownBlock = some w.heap.size) :
  Lays (fun b => v'.ownBlock ≠ some b ∧ B b) w' vs l := by
 rcases hat with hat | hat
 ·rw [hat]; exact h.far (fun b hb => hb.1) hg
 ·refine (h.lt.far (fun b hb => hb.1.1) hg).mono fun b hb => ⟨?_, hb.1.2⟩
  rw [hat]
  intro e
  have := hb.2
  simp at e
  omega
/-- 'append(out, l...)', l whatever predicates that can be read, and lie elsewhere. -/
theorem wpList_append_Q {B : Nat → Prop} {w : World} {ops : Array Oper} {rest : List Oper} {o : Oper} {a : Act} {Q : Exit → Act → World → Prop} (hgd : o.guard = none) (s x : Operand)
  (ho : o.op = .call { callee := .builtin .append, args := #[s, x], argTypes := #[22, 22] }) (base : Nat)
  (v : Value) (xs : List Pr) (hs : a.eval s = v) (hown : OwnQ B w base v xs) (p : Option Addr) (n c : Nat) (us : List PV) (l : List Pr) (hx : a.eval x = .slice p n c) (hn : n = l.length) (hB : RdW 7 pc w p c us) (hL : Lays (fun b => v.ownBlock ≠ some b ∧ B b) w us l)
  (h63 : xs.length + l.length ≤ 1000000) (hbase : base ≤ w.heap.size)
  (h : ∀ v' w', OwnQ B w' base v' (xs ++ l) → w.grownBy w' v.ownBlock → (v'.ownBlock = v.ownBlock ∨ v'.ownBlock = some w.heap.size) → wpList Try.prog ops Q rest (a.put o.dst v') w') : wpList Try.prog ops Q (o :: rest) a w := by
 obtain ⟨vs, h1, h2⟩ := hown
 have e1 := h2.1
 have e2 := hL.1
 refine wpList_append_wide pc_len pc_one hgd s x 22 _ 104 ho Try.underlying22 Try.info40 (by decide) rfl base v vs hs h1 p n c us hx (by omega) hB (by unfold maxLen; omega) (by rw [e1, e2]; omega) hbase ?_
 intro v' w' hO hg hat
 exact h v' w' ⟨vs ++ us, hO, lays_afterQ (h2.append hL) hg hat⟩ hg hat
/-- A value is such a predicate. -/
def IsP (B : Nat → Prop) (p : Pr) (v : Value) (w : World) : Prop := ∃ u, v = pvv u ∧ Lay B p w u
theorem IsP.stands (B : Nat → Prop) (p : Pr) : ∀ v w w', IsP B p v w → Ex w w' → IsP B p v w' := by
 rintro v w w' ⟨u, rfl, h⟩ hx
 exact ⟨u, rfl, Lay.below _ h hx⟩
/-- A value is a list of such predicates, in a block that is new. -/
def IsPs (base : Nat) (B : Nat → Prop) (l : List Pr) (v : Value) (w : World) : Prop := ∃ g us, v = .slice (some ⟨g, 0, none⟩) l.length l.length ∧ base ≤ g ∧ RdW 7 pc w (some ⟨g, 0, none⟩) l.length us ∧ Lays B w us l
theorem IsPs.stands (base : Nat) (B : Nat → Prop) (l : List Pr) : ∀ v w w', IsPs base B l v w → Ex w w' → IsPs base B l v w' := by
 rintro v w w' ⟨g, us, rfl, h0, h1, h2⟩ hx
 exact ⟨g, us, rfl, h0, h1.below hx, h2.below hx⟩
end Pd
set_option maxHeartbeats 1000000 in
theorem run_pred1 {o : Oper} (ρ : Operand → Value) (w : World) (x : Operand) (u : PV) (ho : o.op = .buildSlice 22 1 #[(0, x)]) (h2 : ρ x = pvv u) : (execOp ρ o).run Try.prog w = .ok (.value (.slice (some ⟨w.heap.size, 0, none⟩) 1 1)) (w.alloc (.cells (flat pc [u]).toArray 40)) := by
 simp [execOp, ho, h2, go_sem, pvv, sv, flat, pc]
theorem Rg.good_pred1 {ops : Array Oper} {specs : List Rg.Spec} {a0 : Act} {w1 : World} {o : Oper} {x : Operand} {B : Nat → Prop} {p : Pr} (ho : o.op = .buildSlice 22 1 #[(0, x)]) (hg : Rg.guardV ops specs a0 o = some true)
  (hx : Rg.argS ops specs a0 x = .inr (Pd.IsP B p)) : Rg.GoodOp Try.prog ops specs a0 (Ex w1) Ex o (.inr (Pd.IsPs w1.heap.size B [p])) :=
 Rg.good_of hg fun Q a w hC hh => by
  have h1 := hh x (by rw [ho]; simp [Op.operands])
  rw [hx] at h1
  obtain ⟨u, hu, hL⟩ := h1
  have hal : Ex w (w.alloc (.cells (flat pc [u]).toArray 40)) := (Below.refl _ _).alloc (Nat.le_refl _) _
  refine Rg.Fr.wp_val (run_pred1 _ w x u ho hu) ⟨.slice (some ⟨w.heap.size, 0, none⟩) 1 1, rfl, ?_, hal, hC.trans hal⟩
  exact ⟨w.heap.size, [u], rfl, hC.size, RdW.laid pc_len w [u] (by simp), Pd.Lays.one (Pd.Lay.below _ hL hal)⟩
end Go.Proofs.Ytibnhjfeepdddaa
namespace Go.Proofs.Ytibnhjfeepdddaa
open Go.RowKit
set_option linter.unusedVariables false

theorem Rd.from {α : Type} {enc : α → Value} {w : World} {b off cap : Nat} {l : List α} (h : Rd enc w (some ⟨b, off, none⟩) cap l) (k : Nat) (hk : k ≤ l.length) : Rd enc w (some ⟨b, off + k, none⟩) (cap - k) (l.drop k) := by
 obtain ⟨h1, h2, h3, h4⟩ := h
 refine ⟨by simp; omega, by omega, by simp, fun i x hi => ?_⟩
 rw [List.getElem?_drop] at hi
 obtain ⟨b', off', e, hc⟩ := h4 (k + i) x hi
 simp only [Option.some.injEq, Addr.mk.injEq, and_true] at e
 obtain ⟨rfl, rfl⟩ := e
 exact ⟨b, off + k, rfl, by rw [Nat.add_assoc]; exact hc⟩
theorem Rd.none_ {α : Type} {enc : α → Value} (w : World) (a : Option Addr) : Rd enc w a 0 [] := ⟨by simp, by simp [maxLen], fun _ => rfl, fun i x hi => by simp at hi⟩
set_option maxRecDepth 100000 in
theorem rfind_is (a : Option Addr) (n cap : Nat) (d : List (List UInt8)) (s : List UInt8) (w : World) (hn : n = d.length) (hB : Rd st w a cap d) (r : Option Nat) (hr : T.idx s d = r) :
  Calls Try.prog 85 #[.slice a n cap, .string (str s)] w fun e w' => e = .returned (.tuple #[.int .i64 ((r.getD 0 : Nat) : Int), .bool r.isSome]) ∧ w' = w := by
 subst hn
 have HB : Hid (Rd st w a cap d) := hB
 have HR : Hid (T.idx s d = r) := hr
 have hcl := hB.1
 have hcm := hB.2.1
 unfold maxLen at hcm
 have zs := str_toList s
 clear hB hr
 go_enter Try.func85, Try.ntmps85
 go_wp2_with fail
 go_loop [6] (fun i => ∃ k : Nat, k ≤ d.length ∧ i = .int .i64 k ∧ Hid (T.idx s d = (T.idx s (d.drop k)).map (· + k))) (fun i => d.length - (intOf i).toNat)
 case atStart => exact ⟨0, by omega, rfl, (by simp : T.idx s d = (T.idx s (d.drop 0)).map (· + 0))⟩
 case round =>
  obtain ⟨k, hk, rfl, HI⟩ := hrel
  by_cases hlt : k < d.length
  ·obtain ⟨b, off, rfl, hc⟩ := HB.out.at hlt
   obtain ⟨x, hx⟩ : ∃ x, x = d[k] := ⟨_, rfl⟩
   rw [← hx] at hc
   have hc' : w.cell? ⟨b, off + k, none⟩ = some (.string (str x)) := hc
   have zx := str_toList x
   have hki : (k : Int) < (d.length : Int) := by omega
   have tk : decide ((k : Int) < (d.length : Int)) = true := by simp; omega
   have hdr : d.drop k = x :: d.drop (k + 1) := by rw [List.drop_eq_getElem_cons hlt, hx]
   have hI := HI.out
   rw [hdr, T.idx] at hI
   clear hc hx hdr HI
   by_cases he : x = s
   ·rw [if_pos he, HR.out] at hI
    simp at hI
    subst hI
    subst he
    clear HR
    go_wp2
    go_ret2
    exact ⟨rfl, rfl⟩
   ·rw [if_neg he] at hI
    have HN : Hid (T.idx s d = (T.idx s (d.drop (k + 1))).map (· + (k + 1))) := (by rw [hI, Option.map_map]; congr 1; funext z; simp; omega : T.idx s d = (T.idx s (d.drop (k + 1))).map (· + (k + 1)))
    have hne : (x == s) = false := by simpa using he
    clear hI he
    go_wp2
    go_round
    case rel => exact ⟨k + 1, by omega, by go_num, HN⟩
    case measure => simp [intOf]; omega
  ·have hI := HI.out
   rw [List.drop_eq_nil_of_le (by omega), T.idx, HR.out] at hI
   simp at hI
   subst hI
   go_wp2
   go_ret2
   exact ⟨rfl, rfl⟩

end Go.Proofs.Ytibnhjfeepdddaa
namespace Go.Proofs.Ytibnhjfeepdddaa
open Go.RowKit
set_option linter.unusedVariables false

theorem I.wi64 (n : Int) (h1 : -9223372036854775808 ≤ n) (h2 : n ≤ 9223372036854775807) : IntKind.i64.wrap n = n := by
 simp only [IntKind.wrap, IntKind.bits, IntKind.signed]
 simp
 omega
theorem pos_step {s x : List UInt8} {d : List (List UInt8)} {k : Nat} (h : k < d.length) (hx : x = d[k]) (b : Bool) (hb : Op.bytesLess x s = b) : T.pos s (d.drop k) = if b = true then T.pos s (d.drop (k + 1)) + 1 else 0 := by
 rw [List.drop_eq_getElem_cons h, ← hx, T.pos]
 show (if Op.bytesLess x s = true then _ else _) = _
 rw [hb]
set_option maxRecDepth 100000 in
set_option maxHeartbeats 1000000 in
theorem rput7_main (a : Option Addr) (cap K : Nat) (d : List (List UInt8)) (s : List UInt8) (w : World) (hB : Rd st w a cap d) (hl : d.length ≤ 1000) (hK : T.pos s d = K) (r : List (List UInt8)) (hr : T.ins s d = r) :
  Calls Try.prog 84 #[.slice a d.length cap, .string (str s)] w fun e w' => ∃ v, e = .returned v ∧ IsRd st r v w' ∧ Ex w w' := by
 have HB : Hid (Rd st w a cap d) := hB
 have HK : Hid (T.pos s d = K) := hK
 have hKl : K ≤ d.length := by rw [← hK]; exact T.pos_le s d
 have hie := T.ins_eq s d
 rw [hK, hr] at hie
 have HR : Hid (r = if d[K]? = some s then d else d.take K ++ s :: d.drop K) := hie
 have hcl := hB.1
 have hcm := hB.2.1
 have hcn := hB.2.2.1
 unfold maxLen at hcm
 have zs := str_toList s
 clear hB hr hK hie
 go_enter Try.func84, Try.ntmps84
 go_wp2_with fail
 go_loop [5] (fun i => ∃ k : Nat, k ≤ K ∧ i = .int .i64 k ∧ Hid (K = k + T.pos s (d.drop k))) (fun i => d.length - (intOf i).toNat)
 case atStart => exact ⟨0, by omega, rfl, (by rw [List.drop_zero, HK.out]; simp : K = 0 + T.pos s (d.drop 0))⟩
 case round =>
  obtain ⟨k, hk, rfl, HP⟩ := hrel
  by_cases hlt : k < K
  ·have hkd : k < d.length := by omega
   obtain ⟨b, off, rfl, hc⟩ := HB.out.at hkd
   obtain ⟨x, hx⟩ : ∃ x, x = d[k] := ⟨_, rfl⟩
   rw [← hx] at hc
   have hc' : w.cell? ⟨b, off + k, none⟩ = some (.string (str x)) := hc
   have zx := str_toList x
   have hki : (k : Int) < (d.length : Int) := by omega
   have tk : decide ((k : Int) < (d.length : Int)) = true := by simp; omega
   have hls : Op.bytesLess x s = true := by
    cases hb : Op.bytesLess x s with
    | true => rfl
    | false =>
     have := HP.out
     rw [pos_step hkd hx false hb] at this
     simp at this
     omega
   have HN : Hid (K = (k + 1) + T.pos s (d.drop (k + 1))) := (by have := HP.out; rw [pos_step hkd hx true hls] at this; simp at this; omega : K = (k + 1) + T.pos s (d.drop (k + 1)))
   clear hc hx HP
   go_wp2
   go_round
   case rel => exact ⟨k + 1, by omega, by go_num, HN⟩
   case measure => simp [intOf]; omega
  ·obtain rfl : k = K := by omega
   by_cases hkd : k < d.length
   ·obtain ⟨b, off, rfl, hc⟩ := HB.out.at hkd
    obtain ⟨x, hx⟩ : ∃ x, x = d[k] := ⟨_, rfl⟩
    rw [← hx] at hc
    have hc' : w.cell? ⟨b, off + k, none⟩ = some (.string (str x)) := hc
    have zx := str_toList x
    have hki : (k : Int) < (d.length : Int) := by omega
    have tk : decide ((k : Int) < (d.length : Int)) = true := by simp; omega
    have hls : Op.bytesLess x s = false := by
     cases hb : Op.bytesLess x s with
     | false => rfl
     | true =>
      have := HP.out
      rw [pos_step hkd hx true hb] at this
      simp at this
    have hat : d[k]? = some x := by rw [hx]; exact List.getElem?_eq_getElem hkd
    have hR := HR.out
    rw [hat] at hR
    by_cases he : x = s
    ·rw [if_pos (by rw [he])] at hR
     have hq : (x == s) = true := by simpa using he
     have HRd : Hid (IsRd st r (.slice (some ⟨b, off, none⟩) d.length cap) w) := (by rw [hR]; exact ⟨_, _, rfl, HB.out⟩ : IsRd st r (.slice (some ⟨b, off, none⟩) d.length cap) w)
     clear hc hx HP hat hR he HR HK
     go_wp2
     go_ret
     exact ⟨_, rfl, HRd.out, Ex.refl _⟩
    ·rw [if_neg (by simpa using he)] at hR
     have hq : (x == s) = false := by simpa using he
     have HR2 : Hid (r = d.take k ++ s :: d.drop k) := hR
     have hO0 : OwnR 9 st (w.alloc (.cells #[] 9)) w.heap.size (.slice (some ⟨w.heap.size, 0, none⟩) 0 0) [] := OwnR.empty w _ (Nat.le_refl _)
     have hxa : Ex w (w.alloc (.cells #[] 9)) := (Below.refl _ _).alloc (Nat.le_refl _) _
     have htk : k = (d.take k).length := by simp; omega
     have HTk : Hid (k = (d.take k).length) := htk
     have hdk : d.length - k = (d.drop k).length := by simp
     have HDk : Hid (d.length - k = (d.drop k).length) := hdk
     have hne : ¬ cap - k = 0 := by omega
     have hkc : (k : Int) ≤ (cap : Int) := by omega
     clear hc hx HP hat hR he HR HK htk hdk
     go_wp2_with (first
      | (at_builtin; refine wpList_append_rd (e := 9) (enc := st) rfl (.tmp 34) (.tmp 37) 26 rfl [] 16 Try.underlying26 Try.info9 rfl (fun _ => rfl) w.heap.size _ [] rfl hO0 _ _ _ (d.take k) rfl HTk.out ((HB.out.take k).below hxa) (by simp [maxLen]; omega) (by simp; omega) hxa.size ?_; intro v38 w38 ho38 hg38; have hx38 : Ex w w38 := step_belowR hxa hxa.size hO0 hg38; rw [List.nil_append] at ho38; clear hg38)
      | (at_builtin; refine wpList_append_rd (e := 9) (enc := st) rfl (.tmp 38) (.tmp 40) 26 rfl [] 16 Try.underlying26 Try.info9 rfl (fun _ => rfl) w.heap.size _ (d.take k) rfl (ho38.alloc _) _ _ _ [s] rfl rfl (Rd.laid w38 9 [s] (by simp)) (by simp [maxLen]; omega) (by simp; omega) (by have := hx38.size; simp; omega) ?_; intro v41 w41 ho41 hg41; have hx41 : Ex w w41 := step_belowR (Below.alloc hx38 hx38.size _) (by have := hx38.size; simp; omega) (ho38.alloc _) hg41; clear hg41)
      | (at_builtin; refine wpList_append_rd (e := 9) (enc := st) rfl (.tmp 42) (.tmp 45) 26 rfl [] 16 Try.underlying26 Try.info9 rfl (fun _ => rfl) w.heap.size _ (d.take k ++ [s]) rfl ho41 _ _ _ (d.drop k) rfl HDk.out ((HB.out.from k hKl).below hx41) (by simp [maxLen]; omega) (by simp; omega) hx41.size ?_; intro v46 w46 ho46 hg46; have hx46 : Ex w w46 := step_belowR hx41 hx41.size ho41 hg46; clear hg46))
     go_ret
     refine ⟨_, rfl, ?_, hx46⟩
     rw [HR2.out, show d.take k ++ s :: d.drop k = d.take k ++ [s] ++ d.drop k from by simp]
     exact ho46.rd
   ·obtain rfl : k = d.length := by omega
    have tk : decide ((d.length : Int) < (d.length : Int)) = false := by simp
    have hR := HR.out
    rw [List.getElem?_eq_none (Nat.le_refl _), if_neg (by simp), List.take_length, List.drop_length] at hR
    have HR2 : Hid (r = d ++ [s]) := hR
    have hO0 : OwnR 9 st (w.alloc (.cells #[] 9)) w.heap.size (.slice (some ⟨w.heap.size, 0, none⟩) 0 0) [] := OwnR.empty w _ (Nat.le_refl _)
    have hxa : Ex w (w.alloc (.cells #[] 9)) := (Below.refl _ _).alloc (Nat.le_refl _) _
    have hkc : (d.length : Int) ≤ (cap : Int) := by omega
    clear HP hR HR HK
    by_cases hne : cap - d.length = 0
    ·have hz : ∀ w', Rd st w' a 0 [] := fun w' => Rd.none_ w' a
     go_wp2_with (first
      | (at_builtin; refine wpList_append_rd (e := 9) (enc := st) rfl (.tmp 34) (.tmp 37) 26 rfl [] 16 Try.underlying26 Try.info9 rfl (fun _ => rfl) w.heap.size _ [] rfl hO0 _ _ _ d rfl rfl (HB.out.below hxa) (by simp [maxLen]; omega) (by simp; omega) hxa.size ?_; intro v38 w38 ho38 hg38; have hx38 : Ex w w38 := step_belowR hxa hxa.size hO0 hg38; rw [List.nil_append] at ho38; clear hg38)
      | (at_builtin; refine wpList_append_rd (e := 9) (enc := st) rfl (.tmp 38) (.tmp 40) 26 rfl [] 16 Try.underlying26 Try.info9 rfl (fun _ => rfl) w.heap.size _ d rfl (ho38.alloc _) _ _ _ [s] rfl rfl (Rd.laid w38 9 [s] (by simp)) (by simp [maxLen]; omega) (by simp; omega) (by have := hx38.size; simp; omega) ?_; intro v41 w41 ho41 hg41; have hx41 : Ex w w41 := step_belowR (Below.alloc hx38 hx38.size _) (by have := hx38.size; simp; omega) (ho38.alloc _) hg41; clear hg41)
      | (at_builtin; refine wpList_append_rd (e := 9) (enc := st) rfl (.tmp 42) (.tmp 45) 26 rfl [] 16 Try.underlying26 Try.info9 rfl (fun _ => rfl) w.heap.size _ (d ++ [s]) rfl ho41 _ _ _ [] rfl rfl (hz w41) (by simp [maxLen]; omega) (by simp; omega) hx41.size ?_; intro v46 w46 ho46 hg46; have hx46 : Ex w w46 := step_belowR hx41 hx41.size ho41 hg46; clear hg46))
     go_ret
     refine ⟨_, rfl, ?_, hx46⟩
     rw [HR2.out]
     rw [List.append_nil] at ho46
     exact ho46.rd
    ·obtain ⟨g, hg⟩ : ∃ g, a = some g := by
      cases a with
      | none => exact absurd (hcn rfl) (by omega)
      | some g => exact ⟨g, rfl⟩
     subst hg
     have hz : ∀ w' (x : Addr), Rd st w' (some x) (cap - d.length) [] := fun w' x => ⟨by simp, by unfold maxLen; omega, by simp, fun i y hi => by simp at hi⟩
     go_wp2_with (first
      | (at_builtin; refine wpList_append_rd (e := 9) (enc := st) rfl (.tmp 34) (.tmp 37) 26 rfl [] 16 Try.underlying26 Try.info9 rfl (fun _ => rfl) w.heap.size _ [] rfl hO0 _ _ _ d rfl rfl (HB.out.below hxa) (by simp [maxLen]; omega) (by simp; omega) hxa.size ?_; intro v38 w38 ho38 hg38; have hx38 : Ex w w38 := step_belowR hxa hxa.size hO0 hg38; rw [List.nil_append] at ho38; clear hg38)
      | (at_builtin; refine wpList_append_rd (e := 9) (enc := st) rfl (.tmp 38) (.tmp 40) 26 rfl [] 16 Try.underlying26 Try.info9 rfl (fun _ => rfl) w.heap.size _ d rfl (ho38.alloc _) _ _ _ [s] rfl rfl (Rd.laid w38 9 [s] (by simp)) (by simp [maxLen]; omega) (by simp; omega) (by have := hx38.size; simp; omega) ?_; intro v41 w41 ho41 hg41; have hx41 : Ex w w41 := step_belowR (Below.alloc hx38 hx38.size _) (by have := hx38.size; simp; omega) (ho38.alloc _) hg41; clear hg41)
      | (at_builtin; refine wpList_append_rd (e := 9) (enc := st) rfl (.tmp 42) (.tmp 45) 26 rfl [] 16 Try.underlying26 Try.info9 rfl (fun _ => rfl) w.heap.size _ (d ++ [s]) rfl ho41 _ _ _ [] rfl rfl (hz w41 _) (by simp [maxLen]; omega) (by simp; omega) hx41.size ?_; intro v46 w46 ho46 hg46; have hx46 : Ex w w46 := step_belowR hx41 hx41.size ho41 hg46; clear hg46))
     go_ret
     refine ⟨_, rfl, ?_, hx46⟩
     rw [HR2.out]
     rw [List.append_nil] at ho46
     exact ho46.rd
theorem rput7_is (a : Option Addr) (n cap : Nat) (d : List (List UInt8)) (s : List UInt8) (w : World) (hn : n = d.length) (hB : Rd st w a cap d) (hl : d.length ≤ 1000) (r : List (List UInt8)) (hr : T.ins s d = r) :
  Calls Try.prog 84 #[.slice a n cap, .string (str s)] w fun e w' => ∃ v, e = .returned v ∧ IsRd st r v w' ∧ Ex w w' := by
 subst hn; exact rput7_main a cap _ d s w hB hl rfl r hr

end Go.Proofs.Ytibnhjfeepdddaa
