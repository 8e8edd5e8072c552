/- append of nothing; a list copied whatever its length (the model's l00Own): the contracts. -/
import Derived.Test.YtmbgagkpabepcaaProg
import Derived.Test.YtmbgagkpabepcaaHtC
import Derived.Deep.RegionLaw
import Derived.Deep.Upon
import Derived.StillTailTactics
namespace Go.Proofs.Ytmbgagkpabepcaa
open Go.RowKit
set_option linter.unusedVariables false
set_option linter.unusedSimpArgs false

theorem wpList_append_none {Q : Exit → Act → World → Prop} {ops : Array Oper} {rest : List Oper} {o : Oper} {a : Act} (w : World) (hgd : o.guard = none) (s x : Operand) (t e : TypeId) (i : TypeInfo)
    (ho : o.op = .call { callee := .builtin .append, args := #[s, x], argTypes := #[t, t] }) (ht : Try.prog.underlying t = some (.slice e)) (hi : Try.prog.info? e = some i)
    (B : Option Addr) (n cap : Nat) (hle : n ≤ cap) (hs : a.eval s = .slice B n cap) (A : Option Addr) (c : Nat) (hx : a.eval x = .slice A 0 c)
    (h : wpList Try.prog ops Q rest (a.put o.dst (.slice B n cap)) w) : wpList Try.prog ops Q (o :: rest) a w := by
  refine wpList_plain hgd fun K hK' => ?_
  have hrun : (Builtin.append_ #[t, t] o.type #[.slice B n cap, .slice A 0 c]).run Try.prog w = .ok (.slice B n cap) w := by
    refine run_append_nothing w t t o.type e i ht hi B n cap hle _ ?_
    cases A with
    | none => exact Src.ofNil _ ht c
    | some ad => exact Src.ofSlice _ ht ad 0 c [] (by simp) (fun j u hj => by simp at hj) (fun u hu => by simp at hu)
  unfold Oper.wp
  simp [execOp, ho, resolve, invoke, builtin, hs, hx, hrun, Result.andThen]
  exact hK' _ _ h
theorem own0_any (A : Option Addr) (c : Nat) (w : World) : Calls Try.prog 67 #[.slice A 0 c] w (CopyPostI [] w) := by
  obtain ⟨i0, hi, _⟩ := info_parts info64
  have hi1 := IntsOwn.made w (B := w.heap.size) (Nat.le_refl _)
  have hb1 := (Below.refl w.heap.size w).alloc (Nat.le_refl _) (.cells #[] 2)
  have HI := Lib.hid hi1
  have HB := Lib.hid hb1
  clear hi1 hb1
  go_enter Try.func67, Try.ntmps67
  go_wp2_with (at_builtin; refine wpList_append_none _ rfl _ _ _ _ i0 rfl Try.underlying22 hi _ 0 0 (Nat.le_refl _) rfl A c rfl ?_)
  go_ret
  exact ⟨_, rfl, HI.out, HB.out⟩
theorem ownAny_any (v : Value) (L : List Int) (w : World) (hi : Nat) (hv : NI w hi v L) (hh : hi ≤ w.heap.size) (hl : L.length ≤ 1048576) :
    Calls Try.prog 67 #[v] w (CopyPostI L w) := by
  rcases Nat.eq_zero_or_pos L.length with h0 | h0
  · obtain ⟨A, n, c, rfl, _, _, hn, _⟩ := hv
    obtain rfl : n = 0 := by omega
    obtain rfl : L = [] := List.eq_nil_of_length_eq_zero h0
    exact own0_any A c w
  · exact ownInts_any v L w hi hv hh h0 hl
end Go.Proofs.Ytmbgagkpabepcaa
