/- What an operation makes of a valid array fits. No program in it. -/
import Derived.Test.YteigdjocjcjkiaaFlA
import Derived.Test.YteigdjocjcjkiaaFlF
import Derived.Test.YteigdjocjcjkiaaFlQ
namespace Go.Proofs.Yteigdjocjcjkiaa
open Go.RowKit
set_option linter.unusedVariables false
theorem szS_le_len : ∀ (L : List ByteArray) (M : Nat), (∀ s ∈ L, s.size ≤ M) → szS L ≤ L.length * M
  | [], M, _ => by simp [szS]
  | s :: L, M, h => by
    have h1 := h s (by simp)
    have h2 := szS_le_len L M (fun x hx => h x (by simp [hx]))
    simp only [szS, List.length_cons, Nat.succ_mul]; omega
theorem szB_le_len : ∀ (L : List Blk) (M : Nat), (∀ x ∈ L, szP x.pg ≤ M) → szB L ≤ L.length * M
  | [], M, _ => by simp [szB]
  | s :: L, M, h => by
    have h1 := h s (by simp)
    have h2 := szB_le_len L M (fun x hx => h x (by simp [hx]))
    simp only [szB, List.length_cons, Nat.succ_mul]; omega
theorem BlkOk.sz {p : Int} {x : Blk} (h : BlkOk p x) (hp : p ≤ 16) : szP x.pg ≤ 1472 := by
  obtain ⟨_, _, h3, h4⟩ := h
  have hl : x.pg.length ≤ 16 := by omega
  have := szS_le_len x.pg 91 (fun s hs => by
    obtain ⟨i, hi, rfl⟩ := List.getElem_of_mem hs
    have := h4 i hi
    have e : x.at i = x.pg[i] := by unfold Blk.at; rw [List.getD_eq_getElem?_getD, List.getElem?_eq_getElem hi]; rfl
    rw [e] at this
    rcases this with a | ⟨a, _⟩ <;> omega)
  unfold szP
  have h2 : x.pg.length * 91 ≤ 16 * 91 := Nat.mul_le_mul_right _ hl
  omega
/-- The blocks are valid ones, not too many. -/
def BsOk (p : Int) (L : List Blk) : Prop := p ≤ 16 ∧ L.length ≤ 36 ∧ ∀ i, i < L.length → BlkOk p (L.getD i Blk.zero)
theorem FlOk.bs_ok {F : Fl} (h : FlOk F) : BsOk F.p F.bs := ⟨by have := h.1.p16; omega, by have := h.len; omega, h.2.2.1⟩
theorem BsOk.set {p : Int} {L : List Blk} (h : BsOk p L) (k : Nat) {x : Blk} (hx : BlkOk p x) : BsOk p (L.set k x) := by
  refine ⟨h.1, by rw [List.length_set]; exact h.2.1, fun i hi => ?_⟩
  rw [List.length_set] at hi
  by_cases e : k = i
  · subst e; rw [getD_set_eq _ _ _ _ hi]; exact hx
  · rw [getD_set_ne _ _ _ _ _ e]; exact h.2.2 i hi
theorem BsOk.sz {p : Int} {F : Fl} (h : BsOk p F.bs) : FlSz F := by
  have := szB_le_len F.bs 1472 (fun x hx => by
    obtain ⟨i, hi, rfl⟩ := List.getElem_of_mem hx
    have h2 := h.2.2 i hi
    rw [List.getD_eq_getElem?_getD, List.getElem?_eq_getElem hi] at h2
    exact h2.sz h.1)
  have h2 : F.bs.length * 1472 ≤ 36 * 1472 := Nat.mul_le_mul_right _ h.2.1
  have := h.2.1
  unfold FlSz; omega
theorem FlOk.sz {F : Fl} (h : FlOk F) : FlSz F := h.bs_ok.sz
theorem prog_bs_ok {F : Fl} (h : FlOk F) {k : Nat} (hk : k < F.bs.length) (hn : (F.blk k).nx < F.p) {raw : ByteArray} (hr : raw.size = 91) : BsOk F.p (F.prog k raw).bs := by
  have hb := h.2.2.1 k hk
  unfold Fl.prog
  split
  · split
    · exact h.bs_ok
    · exact h.bs_ok.set k (hb.torn hn hr h.2.2.2.2.1)
  · exact h.bs_ok.set k (hb.prog hn hr)
theorem erase_bs_ok {F : Fl} (h : FlOk F) {k : Nat} (hk : k < F.bs.length) (he : (F.blk k).er ≠ 1000) : BsOk F.p (F.erase k).bs := h.bs_ok.set k ((h.2.2.1 k hk).erase he _)
theorem zero_sz : FlSz Fl.zero := by unfold FlSz; decide
theorem ProgEnds.sz {F : Fl} {block page : Int} {raw : ByteArray} {G : Fl} {c : Int} (h : ProgEnds F block page raw G c) (z : FlSz F) : FlSz G := by
  rcases h with _ | _ | _ | _ | _ | ⟨h, hr, _, k, m, _, rfl, hk, hm, _, h3⟩
  · exact zero_sz
  · exact z
  · exact zero_sz
  · exact zero_sz
  · exact zero_sz
  · exact (prog_bs_ok h hk (by omega) hr).sz
theorem EraEnds.sz {F : Fl} {block : Int} {G : Fl} {c : Int} (h : EraEnds F block G c) (z : FlSz F) : FlSz G := by
  rcases h with _ | _ | _ | _ | ⟨h, _, k, _, hk, _, h3⟩
  · exact zero_sz
  · exact z
  · exact zero_sz
  · exact zero_sz
  · exact (erase_bs_ok h hk h3).sz
end Go.Proofs.Yteigdjocjcjkiaa
