/- Chapter 2's generators: a state, a page and a text. Only that each returns, within its bounds, is said. -/
import Derived.Test.YtopehpnelfbboaaProg
import Derived.Test.YtopehpnelfbboaaPick
namespace Go.Proofs.Ytopehpnelfbboaa
open Go.RowKit

theorem newCells (w : World) (t : TypeId) (l : List Value) (n : Nat) (hn : l.length = n) {Q : Int → Prop} (h : ∀ v ∈ l, ∃ x : Int, v = .int .i64 x ∧ Q x) :
    ∀ i, i < n → ∃ x : Int, (w.alloc (.cells l.toArray t)).cell? ⟨w.heap.size, i, none⟩ = some (.int .i64 x) ∧ Q x := by
  intro i hi
  obtain ⟨x, hx, hq⟩ := h l[i] (List.getElem_mem (by omega))
  refine ⟨x, ?_, hq⟩
  rw [World.cell?_alloc_at _ _ _ _ rfl, ← hx]
  simp [hn, hi]
theorem l02Draw_any (B g n : Nat) (w : World) (h : Src w B g n) (hn : n ≤ 800000000000) :
    Calls Try.prog 39 #[.pointer (some ⟨g, 0, none⟩)] w (Chose (IntIn (-1) 65536) B g (n + 4) w) := by
  have hlt := h.lt
  have HP : Hid (pickMax 65535 = 65534) := by show _ = _; decide
  go_enter Try.func39, Try.ntmps39
  go_wp2_with fail
  refine (pick_any B g n 65535 _ h (by omega) (by omega) (by omega)).mono ?_
  rintro e w1 ⟨v1, rfl, ⟨x, rfl, hx0, hx1⟩, hS1, hg1⟩
  rw [HP.out] at hx1
  clear h
  have hz1 := hg1.size
  have hne : w1.heap.size ≠ g := by omega
  go_wp2_with fail
  refine (among_any (fun x => -1 ≤ x ∧ x ≤ 65536) B g (n + 2) w1.heap.size 11 11 _ ?_ (by omega) (by omega) (by omega) hne ?_).mono ?_
  · exact hS1.keep ((Below.refl _ _).alloc (Nat.le_refl _) _)
  · refine newCells _ _ _ 11 rfl ?_
    intro v hv
    simp only [List.mem_cons, List.not_mem_nil, or_false] at hv
    rcases hv with rfl | rfl | rfl | rfl | rfl | rfl | rfl | rfl | rfl | rfl | rfl <;> exact ⟨_, rfl, by constructor <;> omega⟩
  rintro e w2 ⟨v2, rfl, ⟨y, rfl, hy0, hy1⟩, hS2, hg2⟩
  go_wp2
  go_ret
  exact ⟨_, rfl, ⟨y, rfl, hy0, hy1⟩, hS2, grown_trans hg1 (grown_trans (World.grownBy_alloc w1 _ _) hg2)⟩

/-- What a generator does: it answers, and what was there before is as it was. -/
def Drawn (P : Value → Prop) (w : World) (e : Ending) (w' : World) : Prop := ∃ v, e = .returned v ∧ P v ∧ Below w.heap.size w w'
theorem drawStep_any (w : World) (v : Value) (h : CodeIs w w.heap.size v) :
    Calls Try.prog 18 #[v] w (Drawn (IntIn (-1) 65536) w) := by
  have hv := h
  obtain ⟨A, len, cap, rfl, _⟩ := hv
  go_enter Try.func18, Try.ntmps18
  go_wp2_with (first
    | (go_at_call 32; refine (l00From_any _ _ h).mono ?_; rintro e w1 ⟨rfl, hS1, hb1⟩)
    | (go_at_call 39; refine (l02Draw_any _ _ 0 _ hS1 (by omega)).mono ?_; rintro e w2 ⟨v2, rfl, ⟨y, rfl, hy0, hy1⟩, hS2, hg2⟩))
  go_ret
  exact ⟨_, rfl, ⟨y, rfl, hy0, hy1⟩, hb1.grown hg2 hb1.size (fun k hk => by injection hk with hk; omega)⟩
end Go.Proofs.Ytopehpnelfbboaa
