/- A block programmed in place, by the program and by the model: the contracts. -/
import Derived.Test.YtbehoeabnomlaaaProg
import Derived.Test.YtbehoeabnomlaaaFlQ
import Derived.Test.YtbehoeabnomlaaaFlK
namespace Go.Proofs.Ytbehoeabnomlaaa
open Go.RowKit
set_option linter.unusedVariables false
section
variable {w : World} {lo hi g k : Nat} {pv : Nat → Value} {L : List Blk} {a : Blk}
theorem BO.storePgS (h : BO w lo hi g pv (L.set k a)) (hk : k < L.length) {b off n cap t : Nat} (hv : pv k = .slice (some ⟨b, off, none⟩) n cap) (ht : t < n) (s : ByteArray) (hs : s.size ≤ 9223372036854775807) :
    BO (w.setCell ⟨b, off + t, none⟩ (.string s)) lo hi g pv (L.set k (a.pages (a.pg.set t s))) := by
  have := h.storePg (k := k) (n := t) (by simpa using hk) ht hv s hs
  rwa [List.set_set, getD_set_eq _ _ _ _ hk] at this
theorem BO.pageS (h : BO w lo hi g pv (L.set k a)) (hk : k < L.length) {b off n cap t : Nat} (hv : pv k = .slice (some ⟨b, off, none⟩) n cap) (ht : t < n) :
    w.cell? ⟨b, off + t, none⟩ = some (.string (a.pg.getD t ByteArray.empty)) ∧ w.frozen? ⟨b, off + t, none⟩ = false ∧ lo ≤ b ∧ b < hi ∧ b ≠ g := by
  have h1 := h.page (k := k) (by simpa using hk) hv ht
  rw [getD_set_eq _ _ _ _ hk] at h1
  refine ⟨h1.1, h1.2.1, h1.2.2.1, h1.2.2.2.1, ?_⟩
  obtain ⟨A, l', c', e, _, _, _, _, hx⟩ := h.pgs k (by simpa using hk)
  rw [hv] at e
  injection e with e1 e2 e3
  subst e2
  obtain ⟨b', o', e4, _, _, h6, _⟩ := hx (by omega)
  rw [e4] at e1
  injection e1 with e1
  injection e1 with e1
  omega
end
/-- What is written of a page. -/
def Blk.takes (x : Blk) (raw : ByteArray) (ke : Int) : Blk := if ke = 0 then x else x.torn raw ke
theorem Blk.torn_whole {x : Blk} {raw : ByteArray} (h : raw.size = 91) : x.torn raw 91 = x.prog raw := by
  unfold Blk.torn Blk.prog
  rw [if_neg (by omega)]
  show { x with pg := x.pg.set x.nx.toNat (tornB raw 91), nx := x.nx + 1 } = _
  rw [tornB_all h]
/-- The pages of a block: the slice is there. -/
theorem BO.somePg {w : World} {lo hi g k : Nat} {pv : Nat → Value} {L : List Blk} (h : BO w lo hi g pv L) (hk : k < L.length) (h0 : 0 < (L.getD k Blk.zero).pg.length) :
    ∃ b off cap, pv k = .slice (some ⟨b, off, none⟩) (L.getD k Blk.zero).pg.length cap ∧ (L.getD k Blk.zero).pg.length ≤ cap ∧ cap ≤ 9223372036854775807 := by
  obtain ⟨A, n, cap, e, h1, h2, h3, _, hx⟩ := h.pgs k hk
  obtain ⟨b, off, rfl, _⟩ := hx (by omega)
  exact ⟨b, off, cap, by rw [e, h3], by omega, h2⟩
def UnitPost (P : World → Prop) (e : Ending) (w' : World) : Prop := e = .returned (.tuple #[]) ∧ P w'
end Go.Proofs.Ytbehoeabnomlaaa
