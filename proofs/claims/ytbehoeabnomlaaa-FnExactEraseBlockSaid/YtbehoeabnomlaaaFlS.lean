/- Programming a page, by the program: the contracts. -/
import Derived.Test.YtbehoeabnomlaaaProg
import Derived.Test.YtbehoeabnomlaaaFlR
import Derived.Test.YtbehoeabnomlaaaFlH
import Derived.Test.YtbehoeabnomlaaaHb
namespace Go.Proofs.Ytbehoeabnomlaaa
open Go.RowKit
set_option linter.unusedVariables false
theorem same_grown {w w' : World} {g lo hi : Nat} (h : w.grownBy w' (some g)) (hg : hi ≤ g) (hs : hi ≤ w.heap.size) : Same lo hi w w' := fun j _ h2 => h.block j (by omega) (fun e => by injection e with e; omega)
theorem Rw.kept {w w' : World} {g lo hi : Nat} {t : TypeId} {cs : Array Value} (h : Rw w g t cs) (k : Keep lo hi w w') (hg : hi ≤ g) : Rw w' g t cs := (k.2 g hg h.lt).trans h
theorem set_self (L : List Blk) (k : Nat) (hk : k < L.length) : L.set k (L.getD k Blk.zero) = L := by
  rw [List.getD_eq_getElem?_getD, List.getElem?_eq_getElem hk]; simp
theorem prog_bs {F : Fl} {k : Nat} {raw : ByteArray} (hk : k < F.bs.length) (hr : raw.size = 91) : (F.prog k raw).bs = F.bs.set k ((F.blk k).takes raw F.much) := by
  unfold Fl.prog Fl.much Blk.takes Fl.blk
  by_cases h : F.fu = 0
  · rw [if_pos h, if_pos h]
    by_cases h2 : F.ke = 0
    · rw [if_pos h2, if_pos h2, set_self _ _ hk]; rfl
    · rw [if_neg h2, if_neg h2]; rfl
  · rw [if_neg h, if_neg h, if_neg (by decide), Blk.torn_whole hr]; rfl
theorem prog_flc (F : Fl) (k : Nat) (raw : ByteArray) (u : Value) : flc (F.prog k raw) u = flc F.tick u := by
  unfold Fl.prog
  split
  · split <;> rfl
  · rfl
theorem Fl.much_ok {F : Fl} (h : FlOk F) : 0 ≤ F.much ∧ F.much ≤ 91 := by
  unfold Fl.much; have := h.2.2.2.2.1; split <;> omega
/-- What an operation in place leaves: its code, and where it was started or the array is off, the array as it is then. -/
def InPost (lo hi g : Nat) (u : Value) (G : Fl) (c : Int) (w : World) (e : Ending) (w' : World) : Prop :=
  e = .returned (.int .i64 c) ∧ Below lo w w' ∧ ((c = 0 ∨ c = 8) → Rw w' g 54 (flc G u) ∧ BksOwn w' lo hi u G.bs)
set_option maxRecDepth 100000 in
theorem outcome_any (w : World) (lo hi g : Nat) (G : Fl) (u : Value) (c : Int) (hgl : g < w.heap.size) (hG : (c = 0 ∨ c = 8) → Rw w g 54 (flc G u) ∧ BksOwn w lo hi u G.bs) (hi2 : hi ≤ w.heap.size) (hz : ¬ (c = 0 ∨ c = 8) → G = Fl.zero) :
    Calls Try.prog 93 #[.pointer (some ⟨g, 0, none⟩), .int .i64 c] w fun e w' => ∃ v, e = .returned (.tuple #[v, .int .i64 c]) ∧ FlOwn w' lo hi v G ∧ Below w.heap.size w w' := by
  have HZ := Lib.hid (Rw.new w 54 #[.int .i64 0, .int .i64 0, .int .i64 0, .slice none 0 0, .int .i64 0, .int .i64 0, .bool false, .int .i64 0])
  by_cases hc : c = 0 ∨ c = 8
  · obtain ⟨hR, hB⟩ := hG hc
    have hd : c = 0 ∨ (c == 0) = false ∧ (c == 8) = true := by rcases hc with rfl | rfl <;> simp
    have HB := Lib.hid hB
    obtain ⟨A, n, cap, rfl⟩ := hB.slice
    obtain ⟨c0, c1, c2, c3, c4, c5, c6, c7⟩ := (hR.alloc (.cells #[.int .i64 0, .int .i64 0, .int .i64 0, .slice none 0 0, .int .i64 0, .int .i64 0, .bool false, .int .i64 0] 54)).eight
    clear hB hR hc hG hz
    obtain ⟨d, b, p, bs, fu, ke, off, op⟩ := G
    simp only at *
    have fin : ∀ c : Int, ∃ v, Ending.returned (.tuple #[.agg #[.int .i64 d, .int .i64 b, .int .i64 p, .slice A n cap, .int .i64 fu, .int .i64 ke, .bool off, .int .i64 op], .int .i64 c]) = Ending.returned (Value.tuple #[v, .int .i64 c]) ∧
        FlOwn (w.alloc (.cells #[.int .i64 d, .int .i64 b, .int .i64 p, .slice A n cap, .int .i64 fu, .int .i64 ke, .bool off, .int .i64 op] 54)) lo hi v ⟨d, b, p, bs, fu, ke, off, op⟩ ∧
        Below w.heap.size w (w.alloc (.cells #[.int .i64 d, .int .i64 b, .int .i64 p, .slice A n cap, .int .i64 fu, .int .i64 ke, .bool off, .int .i64 op] 54)) := fun c =>
      ⟨_, rfl, ⟨_, rfl, HB.out.same (sm ((Below.refl w.heap.size w).alloc (Nat.le_refl _) _) lo hi2)⟩, (Below.refl w.heap.size w).alloc (Nat.le_refl _) _⟩
    have FIN := Lib.hid fin
    clear fin
    rcases hd with rfl | ⟨d1, d2⟩
    · go_enter Try.func93, Try.ntmps93
      go_wp2
      exact bodyPost_ret (results_row_tmp Try.results93 _ _ _ _ #[.int .i64 d, .int .i64 b, .int .i64 p, .slice A n cap, .int .i64 fu, .int .i64 ke, .bool off, .int .i64 op] _ _ rfl
        (Rw.new w 54 _) Try.underlying54 rfl infoFl8) rfl (FIN.out 0)
    · go_enter Try.func93, Try.ntmps93
      go_wp2
      exact bodyPost_ret (results_row_tmp Try.results93 _ _ _ _ #[.int .i64 d, .int .i64 b, .int .i64 p, .slice A n cap, .int .i64 fu, .int .i64 ke, .bool off, .int .i64 op] _ _ rfl
        (Rw.new w 54 _) Try.underlying54 rfl infoFl8) rfl (FIN.out c)
  · obtain rfl := hz hc
    have d1 : (c == 0) = false := by simp; exact fun e => hc (.inl e)
    have d2 : (c == 8) = false := by simp; exact fun e => hc (.inr e)
    clear hG hz hc
    go_enter Try.func93, Try.ntmps93
    go_wp2
    exact bodyPost_ret (results_row_tmp Try.results93 _ _ _ _ #[.int .i64 0, .int .i64 0, .int .i64 0, .slice none 0 0, .int .i64 0, .int .i64 0, .bool false, .int .i64 0] _ _ rfl
      HZ.out Try.underlying54 rfl infoFl8) rfl ⟨_, rfl, zeroOwn _ _ _, (Below.refl w.heap.size w).alloc (Nat.le_refl _) _⟩
theorem ProgEnds.codes {F : Fl} {block page : Int} {raw : ByteArray} {G : Fl} {c : Int} (h : ProgEnds F block page raw G c) (hn : ¬ (c = 0 ∨ c = 8)) : G = Fl.zero := by
  rcases h with _ | _ | _ | _ | _ | _
  · rfl
  · exact absurd (.inr rfl) hn
  · rfl
  · rfl
  · rfl
  · exact absurd (by unfold Fl.code; split <;> simp) hn
end Go.Proofs.Ytbehoeabnomlaaa
