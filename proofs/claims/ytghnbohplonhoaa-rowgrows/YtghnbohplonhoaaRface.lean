/-
  What the statements' walks take of package row: its nine contracts, as the landed package meets them.
-/
import Derived.Test.YtghnbohplonhoaaKshort
import Derived.Test.YtghnbohplonhoaaKrows2
import Derived.Test.YtghnbohplonhoaaRopens
import Derived.Test.YtghnbohplonhoaaLrow
import Derived.Test.YtghnbohplonhoaaLsort
import Derived.Test.YtghnbohplonhoaaLgrow
namespace Go.Proofs.Ytghnbohplonhoaa
open Go.RowKit
set_option linter.unusedVariables false
theorem f_name (s : List UInt8) (w : World) (hs : s.length ≤ maxLen) (r : Bool) (hr : Rw.name s = r) : Calls Try.prog 30 #[.string (str s)] w fun e w' => e = .returned (.bool r) ∧ Ex w w' :=
  (sname_is s w hs r hr).mono fun e w' ⟨h1, h2⟩ => ⟨h1, by rw [h2]; exact Ex.refl w⟩
theorem f_right (v : RV) (r : Rw) (w : World) (h : RvOk w v r) (hl : RwOk r) (o : Bool) (ho : Rw.right r = o) : Calls Try.prog 14 #[rvv v] w fun e w' => e = .returned (.bool o) ∧ Ex w w' := sright_is v r w h hl o ho
theorem f_cell (v : RV) (r : Rw) (s : List UInt8) (w : World) (h : RvOk w v r) (hl : RwOk r) (hs : s.length ≤ maxLen) (c : Ce) (hc : Rw.cell r.c s = c) : Calls Try.prog 22 #[rvv v, .string (str s)] w fun e w' => e = .returned (cv c) ∧ Ex w w' := scell_is v r s w h c hc
theorem f_less (u v : RV) (a b : Rw) (w : World) (h1 : RvOk w u a) (h2 : RvOk w v b) (r : Bool) (hr : Rw.less a b = r) : Calls Try.prog 33 #[rvv u, rvv v] w fun e w' => e = .returned (.bool r) ∧ Ex w w' := sless_is u v a b w ⟨h1.1, h1.2.1⟩ ⟨h2.1, h2.2.1⟩ r hr
theorem f_sort (a : Option Addr) (n cap : Nat) (l : List Rw) (w : World) (hn : n = l.length) (hB : RdR w a cap l) (hl : l.length ≤ 1000) (hok : ∀ r ∈ l, r.c.length ≤ 1000) : Calls Try.prog 28 #[.slice a n cap] w fun e w' => ∃ a' c', e = .returned (.slice a' (Rw.sort l).length c') ∧ RdR w' a' c' (Rw.sort l) ∧ Ex w w' := ssort_is a n cap l w hn hB hl hok
theorem f_cols (a : Option Addr) (n cap : Nat) (l : List Co) (w : World) (hn : n = l.length) (hB : RdK w a cap l) (hl : ∀ c ∈ l, c.nm.length ≤ maxLen ∧ In64 c.k) (o : Bool) (ho : Rw.colsOk l = o) : Calls Try.prog 21 #[.slice a n cap] w fun e w' => e = .returned (.bool o) ∧ Ex w w' := scols_is a n cap l w hn hB hl o ho
theorem f_grow (a : Option Addr) (n cap : Nat) (cols : List Co) (a' : Option Addr) (n' cap' : Nat) (l : List Rw) (w : World) (hn : n = cols.length) (hn' : n' = l.length) (hB : RdK w a cap cols) (hB' : RdR w a' cap' l) (hc : ∀ c ∈ cols, c.nm.length ≤ maxLen ∧ In64 c.k) (hok : ∀ r ∈ l, RwOk r) (hcl : cols.length ≤ 1000) (hl : l.length ≤ 1000) (C : List Co) (e0 k0 : Nat) (hr : Rw.grow cols l = (C, e0, k0)) : Calls Try.prog 19 #[.slice a n cap, .slice a' n' cap'] w fun e w' => ∃ p c, e = .returned (.tuple #[.slice p C.length c, .int .i64 e0, .int .i64 k0]) ∧ RdK w' p c C ∧ Ex w w' := sgrow_is a n cap cols a' n' cap' l w hn hn' hB hB' hc hok hcl hl C e0 k0 hr
theorem f_enc (v : RV) (r : Rw) (w : World) (h : RvOk w v r) (hl : RwOk r) (R : List UInt8) (e0 : Nat) (hr : Rw.encE r = (R, e0)) : Calls Try.prog 12 #[rvv v] w fun e w' => ∃ p c, e = .returned (.tuple #[.slice p R.length c, .int .i64 e0]) ∧ Byt w' p c R ∧ Ex w w' := senc_is v r w h hl R e0 hr
theorem f_dec (a : Option Addr) (len cap : Nat) (b : List UInt8) (p : Int) (w : World) (hlen : len = b.length) (hB : Byt w a cap b) (hbl : b.length ≤ 281474976710656) (hp : In64 p) (R : Rw) (k0 e0 : Nat) (hr : Rw.dec b p = (R, k0, e0)) : Calls Try.prog 16 #[.slice a len cap, .int .i64 p] w fun e w' => ∃ sa sc, e = .returned (.tuple #[rvv ⟨R.t, R.q, sa, R.c.length, sc⟩, .int .i64 k0, .int .i64 e0]) ∧ RdC w' sa sc R.c ∧ Ex w w' := sdec_is a len cap b p w hlen hB R k0 e0 hr
/-- Rows that are cut have few cells. -/
theorem Rw.short_c (l : List Rw) (m : Int) : ∀ r ∈ Rw.short l m, r.c.length ≤ 1000 := by
  intro r hr
  unfold Rw.short at hr
  obtain ⟨x, _, rfl⟩ := List.mem_map.1 hr
  simp [Rw.shr]
  omega
end Go.Proofs.Ytghnbohplonhoaa
