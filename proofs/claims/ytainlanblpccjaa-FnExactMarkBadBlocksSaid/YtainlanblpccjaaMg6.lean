/- The proof's own lemmas, part 7: FlG TbM FtN. -/
import Derived.Test.YtainlanblpccjaaProg
import Derived.Test.YtainlanblpccjaaMg1
import Derived.Test.YtainlanblpccjaaMg4
import Derived.Test.YtainlanblpccjaaMg5
import Derived.Test.YtainlanblpccjaaMg2
import Derived.Test.YtainlanblpccjaaMg3
import Derived.Test.YtainlanblpccjaaMg0
/- What a call that hands back an array leaves behind: plain helpers. -/
namespace Go.Proofs.Ytainlanblpccjaa
open Go.RowKit
set_option linter.unusedVariables false
def OwnPost (G : Fl) (w : World) (e : Ending) (w' : World) : Prop := ∃ u, e = .returned u ∧ FlOwn w' w.heap.size w'.heap.size u G ∧ Below w.heap.size w w'
/-- What PowerOn answers. -/
def OnEnds (F G : Fl) : Prop := (FlOk F ∧ G = F.on) ∨ (¬ FlOk F ∧ G = Fl.zero)
theorem onEnds (F : Fl) : ∃ G, OnEnds F G := by
  by_cases h : FlOk F
  · exact ⟨_, .inl ⟨h, rfl⟩⟩
  · exact ⟨_, .inr ⟨h, rfl⟩⟩
theorem zeroOwn (w : World) (lo hi : Nat) : FlOwn w lo hi (.agg #[.int .i64 0, .int .i64 0, .int .i64 0, .slice none 0 0, .int .i64 0, .int .i64 0, .bool false, .int .i64 0]) Fl.zero := FlOwn.zero w lo hi
/-- The eight cells of a result laid anew. -/
theorem Rw.put8 {w : World} {g : Nat} {t : TypeId} {c0 c1 c2 c3 c4 c5 c6 c7 : Value} (h : Rw w g t #[c0, c1, c2, c3, c4, c5, c6, c7]) (a b c d e f i j : Value) :
    Rw ((((((((w.setCell ⟨g, 0, none⟩ a).setCell ⟨g, 1, none⟩ b).setCell ⟨g, 2, none⟩ c).setCell ⟨g, 3, none⟩ d).setCell ⟨g, 4, none⟩ e).setCell ⟨g, 5, none⟩ f).setCell ⟨g, 6, none⟩ i).setCell ⟨g, 7, none⟩ j) g t #[a, b, c, d, e, f, i, j] := by
  have k := (((((((h.set_ 0 a).set_ 1 b).set_ 2 c).set_ 3 d).set_ 4 e).set_ 5 f).set_ 6 i).set_ 7 j
  simp only [List.setIfInBounds_toArray, List.set_cons_zero, List.set_cons_succ] at k
  exact k
theorem Rw.eightA {w : World} {g : Nat} {t : TypeId} {a b c d e f i j : Value} (h : Rw w g t #[a, b, c, d, e, f, i, j]) : (∀ o, (w.alloc o).cell? ⟨g, 0, none⟩ = some a) ∧ (∀ o, (w.alloc o).cell? ⟨g, 1, none⟩ = some b) ∧ (∀ o, (w.alloc o).cell? ⟨g, 2, none⟩ = some c) ∧ (∀ o, (w.alloc o).cell? ⟨g, 3, none⟩ = some d) ∧
    (∀ o, (w.alloc o).cell? ⟨g, 4, none⟩ = some e) ∧ (∀ o, (w.alloc o).cell? ⟨g, 5, none⟩ = some f) ∧ (∀ o, (w.alloc o).cell? ⟨g, 6, none⟩ = some i) ∧ (∀ o, (w.alloc o).cell? ⟨g, 7, none⟩ = some j) :=
  ⟨fun o => (h.alloc o).cell 0, fun o => (h.alloc o).cell 1, fun o => (h.alloc o).cell 2, fun o => (h.alloc o).cell 3, fun o => (h.alloc o).cell 4, fun o => (h.alloc o).cell 5, fun o => (h.alloc o).cell 6, fun o => (h.alloc o).cell 7⟩
theorem Rw.freesA {w : World} {g : Nat} {t : TypeId} {cs : Array Value} (h : Rw w g t cs) : (∀ o, (w.alloc o).frozen? ⟨g, 0, none⟩ = false) ∧ (∀ o, (w.alloc o).frozen? ⟨g, 1, none⟩ = false) ∧ (∀ o, (w.alloc o).frozen? ⟨g, 2, none⟩ = false) ∧ (∀ o, (w.alloc o).frozen? ⟨g, 3, none⟩ = false) ∧
    (∀ o, (w.alloc o).frozen? ⟨g, 4, none⟩ = false) ∧ (∀ o, (w.alloc o).frozen? ⟨g, 5, none⟩ = false) ∧ (∀ o, (w.alloc o).frozen? ⟨g, 6, none⟩ = false) ∧ (∀ o, (w.alloc o).frozen? ⟨g, 7, none⟩ = false) :=
  ⟨fun o => (h.alloc o).free 0, fun o => (h.alloc o).free 1, fun o => (h.alloc o).free 2, fun o => (h.alloc o).free 3, fun o => (h.alloc o).free 4, fun o => (h.alloc o).free 5, fun o => (h.alloc o).free 6, fun o => (h.alloc o).free 7⟩
theorem BksOwn.slice {w : World} {lo hi : Nat} {v : Value} {L : List Blk} (h : BksOwn w lo hi v L) : ∃ A n c, v = .slice A n c := by
  obtain ⟨A, n, c, e, _⟩ := h; exact ⟨A, n, c, e⟩
theorem BksIn.slice {w : World} {lo hi : Nat} {v : Value} {L : List Blk} (h : BksIn w lo hi v L) : ∃ A n c, v = .slice A n c := by
  obtain ⟨A, n, c, e, _⟩ := h; exact ⟨A, n, c, e⟩
def FlPost (G : Fl) (c : Int) (w : World) (e : Ending) (w' : World) : Prop := ∃ u, e = .returned (.tuple #[u, .int .i64 c]) ∧ FlOwn w' w.heap.size w'.heap.size u G ∧ Below w.heap.size w w'
theorem grown_refl (w : World) (row : Option Nat) : w.grownBy w row := ⟨rfl, rfl, rfl, Nat.le_refl _, fun _ _ _ => rfl⟩
theorem grown_set {w w' : World} {g k : Nat} (h : w.grownBy w' (some g)) (u : Value) : w.grownBy (w'.setCell ⟨g, k, none⟩ u) (some g) :=
  ⟨h.os, h.tape, h.output, by simpa using h.size, fun j hj hr => (Below.heap_setCell w' ⟨g, k, none⟩ u j (fun e => hr (by rw [e]))).trans (h.block j hj hr)⟩
theorem grown_keep {w w' : World} {g : Nat} (h : w.grownBy w' (some g)) {B : Nat} (hB : B ≤ g) (hw : B ≤ w.heap.size) : Below B w w' :=
  (Below.refl B w).grown h hw (fun k hk => by injection hk with hk; omega)
end Go.Proofs.Ytainlanblpccjaa
/- Tables of bad blocks in memory; what the laws' helpers for tables do. -/
namespace Go.Proofs.Ytainlanblpccjaa
open Go.RowKit
set_option linter.unusedVariables false
/-- The value v is a slice, in the blocks below hi, that reads as the integers l. -/
def NI (w : World) (hi : Nat) (v : Value) (l : List Int) : Prop :=
  ∃ A len cap, v = .slice A len cap ∧ len ≤ cap ∧ cap ≤ 9223372036854775807 ∧ l.length = len ∧ (0 < len → ∃ b off, A = some ⟨b, off, none⟩ ∧ b < hi ∧ ∀ i, i < len → w.cell? ⟨b, off + i, none⟩ = some (.int .i64 (l.getD i 0)))
/-- The value v is a slice of the call's own, in the blocks from lo up to hi. -/
def IO (w : World) (lo hi : Nat) (v : Value) (l : List Int) : Prop := IntsOwn w lo v l ∧ ∀ k, v.ownBlock = some k → k < hi
section
variable {w w' : World} {lo hi lo' hi' B : Nat} {v u : Value} {l : List Int}
theorem NI.below (h : NI w hi v l) (hb : Below B w w') (hB : hi ≤ B) : NI w' hi v l := by
  obtain ⟨A, len, cap, rfl, h1, h2, hl, hc⟩ := h
  refine ⟨A, len, cap, rfl, h1, h2, hl, fun h0 => ?_⟩
  obtain ⟨b, off, rfl, hbl, hx⟩ := hc h0
  exact ⟨b, off, rfl, hbl, fun i hi => (hb.cell (p := ⟨b, off + i, none⟩) (Nat.lt_of_lt_of_le hbl hB)).trans (hx i hi)⟩
theorem NI.wide (h : NI w hi v l) (hh : hi ≤ hi') : NI w hi' v l := by
  obtain ⟨A, len, cap, rfl, h1, h2, hl, hc⟩ := h
  refine ⟨A, len, cap, rfl, h1, h2, hl, fun h0 => ?_⟩
  obtain ⟨b, off, rfl, hbl, hx⟩ := hc h0
  exact ⟨b, off, rfl, by omega, hx⟩
theorem NI.ints (h : NI w hi v l) (hh : hi ≤ w.heap.size) : IntsIn w v l := by
  obtain ⟨A, len, cap, rfl, h1, h2, hl, hc⟩ := h
  refine ⟨A, len, cap, rfl, hl, fun h0 => ?_⟩
  obtain ⟨b, off, rfl, hbl, hx⟩ := hc h0
  exact ⟨b, off, rfl, by omega, hx⟩
theorem NI.intsR (h : NI w hi v l) (hh : hi ≤ w.heap.size) : IntsR w v l := by
  obtain ⟨A, len, cap, rfl, h1, h2, hl, hc⟩ := h
  refine ⟨A, len, cap, rfl, h1, h2, hl, fun h0 => ?_⟩
  obtain ⟨b, off, rfl, hbl, hx⟩ := hc h0
  exact ⟨b, off, rfl, by omega, hx⟩
theorem IntsR.ni (h : IntsR w v l) : NI w w.heap.size v l := by
  obtain ⟨A, len, cap, rfl, h1, h2, hl, hc⟩ := h
  exact ⟨A, len, cap, rfl, h1, h2, hl, hc⟩
theorem NI.slice (h : NI w hi v l) : ∃ A n c, v = .slice A n c := by obtain ⟨A, n, c, e, _⟩ := h; exact ⟨A, n, c, e⟩
theorem NI.nil (w : World) (hi : Nat) : NI w hi (.slice none 0 0) [] := ⟨none, 0, 0, rfl, by omega, by omega, rfl, fun h => by omega⟩
theorem IO.reads (h : IO w lo hi v l) : NI w hi v l := by
  obtain ⟨A, len, cap, rfl, h1, h2, hl, hc⟩ := h.1.readsR
  refine ⟨A, len, cap, rfl, h1, h2, hl, fun h0 => ?_⟩
  obtain ⟨b, off, rfl, hbl, hx⟩ := hc h0
  refine ⟨b, off, rfl, ?_, hx⟩
  rcases h.1.shape with ⟨e, _⟩ | ⟨g, cap', e, _⟩
  · cases e
  · injection e with e1 e2 e3
    injection e1 with e1
    injection e1 with e1 e4
    subst e1
    exact h.2 b rfl
theorem IntsOwn.blockOf (h : IntsOwn w lo v l) {k : Nat} (e : v.ownBlock = some k) : lo ≤ k ∧ k < w.heap.size := World.ownsRow.lt h k e
theorem IO.mk_ (h : IntsOwn w lo v l) : IO w lo w.heap.size v l := ⟨h, fun k e => (h.blockOf e).2⟩
theorem IntsOwn.sames (h : IntsOwn w lo v l) (hs : ∀ k, v.ownBlock = some k → w'.heap[k]? = w.heap[k]?) : IntsOwn w' lo v l := by
  refine ⟨h.1, ?_⟩
  rcases h.2 with h2 | ⟨g, cap, cur, h1, h2, h3, h4⟩
  · exact .inl h2
  · exact .inr ⟨g, cap, cur, h1, h2, (hs g (by rw [h1]; rfl)).trans h3, h4⟩
theorem IO.same (h : IO w lo hi v l) (hs : Same lo hi w w') : IO w' lo hi v l := ⟨h.1.sames fun k e => hs k (h.1.blockOf e).1 (h.2 k e), h.2⟩
theorem IO.below (h : IO w lo hi v l) (hb : Below B w w') (hB : hi ≤ B) : IO w' lo hi v l := h.same (sm hb lo hB)
theorem IntsOwn.low {B' : Nat} (h : IntsOwn w B v l) (hB : B' ≤ B) : IntsOwn w B' v l := by
  refine ⟨h.1, ?_⟩
  rcases h.2 with h2 | ⟨g, cap, cur, h1, h2, h3, h4, h5⟩
  · exact .inl h2
  · exact .inr ⟨g, cap, cur, h1, by omega, h3, h4, h5⟩
theorem IO.wide (h : IO w lo hi v l) (hl : lo' ≤ lo) (hh : hi ≤ hi') : IO w lo' hi' v l := ⟨h.1.low hl, fun k e => by have := h.2 k e; omega⟩
theorem IO.nil (w : World) (lo hi : Nat) : IO w lo hi (.slice none 0 0) [] := ⟨World.ownsRow_nil w lo _ 1, fun k e => by cases e⟩
end
/-- The cells of a table whose lists are the slices u and v. -/
def tbc (T : Tb) (u v : Value) : Array Value := #[.int .i64 T.d, .int .i64 T.b, .int .i64 T.p, .int .i64 T.sp, u, v]
def TbIn (w : World) (hi : Nat) (v : Value) (T : Tb) : Prop := ∃ a b, v = .agg (tbc T a b) ∧ NI w hi a T.bad ∧ NI w hi b T.rm
def TbOwn (w : World) (lo hi : Nat) (v : Value) (T : Tb) : Prop := ∃ a b, v = .agg (tbc T a b) ∧ IO w lo hi a T.bad ∧ IO w lo hi b T.rm ∧ (a.ownBlock = none ∨ a.ownBlock ≠ b.ownBlock)
section
variable {w w' : World} {lo hi lo' hi' B : Nat} {v : Value} {T : Tb}
theorem TbIn.below (h : TbIn w hi v T) (hb : Below B w w') (hB : hi ≤ B) : TbIn w' hi v T := by
  obtain ⟨a, b, e, h1, h2⟩ := h; exact ⟨a, b, e, h1.below hb hB, h2.below hb hB⟩
theorem NI.same {l : List Int} (h : NI w hi v l) (hs : Same 0 hi w w') : NI w' hi v l := by
  obtain ⟨A, len, cap, rfl, h1, h2, hl, hc⟩ := h
  refine ⟨A, len, cap, rfl, h1, h2, hl, fun h0 => ?_⟩
  obtain ⟨b, off, rfl, hbl, hx⟩ := hc h0
  exact ⟨b, off, rfl, hbl, fun i hi => (hs.cell (p := ⟨b, off + i, none⟩) (Nat.zero_le _) hbl).trans (hx i hi)⟩
theorem TbIn.same (h : TbIn w hi v T) (hs : Same 0 hi w w') : TbIn w' hi v T := by
  obtain ⟨a, b, e, h1, h2⟩ := h; exact ⟨a, b, e, h1.same hs, h2.same hs⟩
theorem TbIn.wide (h : TbIn w hi v T) (hh : hi ≤ hi') : TbIn w hi' v T := by
  obtain ⟨a, b, e, h1, h2⟩ := h; exact ⟨a, b, e, h1.wide hh, h2.wide hh⟩
theorem TbOwn.reads (h : TbOwn w lo hi v T) : TbIn w hi v T := by
  obtain ⟨a, b, e, h1, h2, _⟩ := h; exact ⟨a, b, e, h1.reads, h2.reads⟩
theorem TbOwn.same (h : TbOwn w lo hi v T) (hs : Same lo hi w w') : TbOwn w' lo hi v T := by
  obtain ⟨a, b, e, h1, h2, h3⟩ := h; exact ⟨a, b, e, h1.same hs, h2.same hs, h3⟩
theorem TbOwn.wide (h : TbOwn w lo hi v T) (hl : lo' ≤ lo) (hh : hi ≤ hi') : TbOwn w lo' hi' v T := by
  obtain ⟨a, b, e, h1, h2, h3⟩ := h; exact ⟨a, b, e, h1.wide hl hh, h2.wide hl hh, h3⟩
theorem TbOwn.zero (w : World) (lo hi : Nat) : TbOwn w lo hi (.agg #[.int .i64 0, .int .i64 0, .int .i64 0, .int .i64 0, .slice none 0 0, .slice none 0 0]) Tb.zero := ⟨_, _, rfl, IO.nil _ _ _, IO.nil _ _ _, .inl rfl⟩
theorem TbIn.agg6 (h : TbIn w hi v T) : ∃ g0 g1 g2 g3 A n c A' n' c', v = .agg #[.int .i64 g0, .int .i64 g1, .int .i64 g2, .int .i64 g3, .slice A n c, .slice A' n' c'] := by
  obtain ⟨a, b, e, h1, h2⟩ := h
  obtain ⟨A, n, c, rfl⟩ := h1.slice
  obtain ⟨A', n', c', rfl⟩ := h2.slice
  exact ⟨_, _, _, _, _, _, _, _, _, _, e⟩
end
theorem TbOwn.agg6 {w : World} {lo hi : Nat} {v : Value} {T : Tb} (h : TbOwn w lo hi v T) : ∃ (g0 g1 g2 g3 : Int) (A : Option Addr) (n c : Nat) (A' : Option Addr) (n' c' : Nat), v = .agg #[.int .i64 g0, .int .i64 g1, .int .i64 g2, .int .i64 g3, .slice A n c, .slice A' n' c'] := h.reads.agg6
section
variable {w : World} {g : Nat} {t : TypeId}
theorem Rw.six {a b c d e f : Value} (h : Rw w g t #[a, b, c, d, e, f]) : w.cell? ⟨g, 0, none⟩ = some a ∧ w.cell? ⟨g, 1, none⟩ = some b ∧ w.cell? ⟨g, 2, none⟩ = some c ∧ w.cell? ⟨g, 3, none⟩ = some d ∧
    w.cell? ⟨g, 4, none⟩ = some e ∧ w.cell? ⟨g, 5, none⟩ = some f :=
  ⟨h.cell 0, h.cell 1, h.cell 2, h.cell 3, h.cell 4, h.cell 5⟩
theorem Rw.put6 {c0 c1 c2 c3 c4 c5 : Value} (h : Rw w g t #[c0, c1, c2, c3, c4, c5]) (a b c d e f : Value) :
    Rw ((((((w.setCell ⟨g, 0, none⟩ a).setCell ⟨g, 1, none⟩ b).setCell ⟨g, 2, none⟩ c).setCell ⟨g, 3, none⟩ d).setCell ⟨g, 4, none⟩ e).setCell ⟨g, 5, none⟩ f) g t #[a, b, c, d, e, f] := by
  have k := (((((h.set_ 0 a).set_ 1 b).set_ 2 c).set_ 3 d).set_ 4 e).set_ 5 f
  simp only [List.setIfInBounds_toArray, List.set_cons_zero, List.set_cons_succ] at k
  exact k
end
/-- The table fits. -/
def TbSz (T : Tb) : Prop := T.bad.length + T.rm.length ≤ 1048576
theorem szInts_any (v : Value) (l : List Int) (w : World) (hi : Nat) (m : Int) (h : NI w hi v l) (h0 : 0 ≤ m) (h1 : m ≤ 1048576) :
    Calls Try.prog 81 #[v, .int .i64 m] w fun e w' => ∃ x : Int, e = .returned (.int .i64 x) ∧ Left m l.length x ∧ w' = w := by
  obtain ⟨A, n, cap, rfl, hlc, hcm, hn, hA⟩ := h
  have hnm : (n : Int) ≤ 9223372036854775807 := by omega
  have HN := Lib.hid hn
  clear hA hn
  by_cases hbig : m < (n : Int)
  · go_enter Try.func81, Try.ntmps81
    go_wp2
    go_ret
    exact ⟨_, rfl, .inr ⟨by have := HN.out; omega, rfl⟩, rfl⟩
  · have hs : (n : Int) ≤ m := by omega
    go_enter Try.func81, Try.ntmps81
    go_wp2
    go_ret
    exact ⟨_, rfl, .inl ⟨by have := HN.out; omega, by have := HN.out; omega⟩, rfl⟩
set_option maxHeartbeats 1000000 in
theorem szTbM_any (v : Value) (T : Tb) (w : World) (hi : Nat) (m : Int) (h : TbIn w hi v T) (hh : hi ≤ w.heap.size) (hm0 : 0 ≤ m) (hm1 : m ≤ 1048576) :
    Calls Try.prog 60 #[v, .int .i64 m] w (LeftPost m (T.bad.length + T.rm.length) w) := by
  obtain ⟨a, b, rfl, h1, h2⟩ := h
  obtain ⟨A, n, c, rfl⟩ := h1.slice
  obtain ⟨A', n', c', rfl⟩ := h2.slice
  have HS := Lib.hid (fun (W : World) (hW : NI W hi (.slice A n c) T.bad) => szInts_any _ T.bad W hi m hW hm0 hm1)
  have HS2 := Lib.hid (fun (W : World) (mm : Int) (hW : NI W hi (.slice A' n' c') T.rm) (p : 0 ≤ mm) (q : mm ≤ 1048576) => szInts_any _ T.rm W hi mm hW p q)
  have H1 := Lib.hid h1
  have H2 := Lib.hid h2
  clear h1 h2
  obtain ⟨d, bb, p, sp, bad, rm⟩ := T
  unfold tbc
  simp only at *
  have r0 := Rw.new w 85 #[.int .i64 d, .int .i64 bb, .int .i64 p, .int .i64 sp, .slice A n c, .slice A' n' c']
  have b0 := (Below.refl w.heap.size w).alloc (Nat.le_refl _) (.cells #[.int .i64 d, .int .i64 bb, .int .i64 p, .int .i64 sp, .slice A n c, .slice A' n' c'] 85)
  have R0 := Lib.hid r0
  have B0 := Lib.hid b0
  clear r0 b0
  generalize bad.length = t1 at *
  generalize rm.length = t2 at *
  go_enter Try.func60, Try.ntmps60
  go_wp2_with fail
  refine (HS.out _ (H1.out.below B0.out hh)).mono ?_
  rintro e w1 ⟨x, rfl, hx, rfl⟩
  by_cases hneg : x < 0
  · go_wp2
    go_ret
    rcases hx with hx | hx
    · omega
    · exact ⟨_, rfl, .inr ⟨by omega, rfl⟩, B0.out⟩
  · have hn : ¬ x < 0 := hneg
    have hx2 : (t1 : Int) ≤ m ∧ x = m - (t1 : Int) := by rcases hx with hx | hx <;> omega
    have hx0 : 0 ≤ x := by omega
    have hx1 : x ≤ 1048576 := by omega
    have HX := Lib.hid hx2
    clear hx hx2
    go_wp2_with fail
    refine (HS2.out _ x (H2.out.below B0.out hh) hx0 hx1).mono ?_
    rintro e w2 ⟨y, rfl, hy, rfl⟩
    have hX := HX.out
    by_cases hneg2 : y < 0
    · go_wp2
      go_ret
      rcases hy with hy | hy
      · omega
      · exact ⟨_, rfl, .inr ⟨by omega, rfl⟩, B0.out⟩
    · have hn2 : ¬ y < 0 := hneg2
      go_wp2
      go_ret
      rcases hy with hy | hy
      · exact ⟨_, rfl, .inl ⟨by omega, by omega⟩, B0.out⟩
      · omega
theorem szTb_any (v : Value) (T : Tb) (w : World) (hi : Nat) (h : TbIn w hi v T) (hh : hi ≤ w.heap.size) :
    Calls Try.prog 60 #[v, .int .i64 1048576] w (LeftPost 1048576 (T.bad.length + T.rm.length) w) := szTbM_any v T w hi 1048576 h hh (by omega) (by omega)
theorem Left.tbSmall {T : Tb} {x : Int} (h : Left 1048576 (T.bad.length + T.rm.length) x) (h0 : ¬ x < 0) : TbSz T := by
  unfold TbSz
  rcases h with h | h <;> omega
end Go.Proofs.Ytainlanblpccjaa
/- Faults and lists of them as plain data. No program in it. -/
namespace Go.Proofs.Ytainlanblpccjaa
open Go.RowKit
set_option linter.unusedVariables false
structure Ft where
  k : Int
  b : Int
  p : Int
  t : Int
def Ft.zero : Ft := ⟨0, 0, 0, 0⟩
def Ft.four (x : Ft) : List Int := [x.k, x.b, x.p, x.t]
def flat : List Ft → List Int
  | [] => []
  | x :: L => x.k :: x.b :: x.p :: x.t :: flat L
theorem flat_length : ∀ L : List Ft, (flat L).length = L.length * 4
  | [] => rfl
  | x :: L => by simp only [flat, List.length_cons, flat_length L]; omega
theorem flat_append : ∀ L M : List Ft, flat (L ++ M) = flat L ++ flat M
  | [], M => rfl
  | x :: L, M => by simp only [List.cons_append, flat, flat_append L M]
theorem flat_at : ∀ (L : List Ft) (i : Nat), i < L.length → (flat L).getD (i * 4) 0 = (L.getD i Ft.zero).k ∧ (flat L).getD (i * 4 + 1) 0 = (L.getD i Ft.zero).b ∧ (flat L).getD (i * 4 + 2) 0 = (L.getD i Ft.zero).p ∧ (flat L).getD (i * 4 + 3) 0 = (L.getD i Ft.zero).t
  | [], i, h => by simp at h
  | x :: L, 0, h => ⟨rfl, rfl, rfl, rfl⟩
  | x :: L, i + 1, h => by
    have ih := flat_at L i (by simpa using h)
    have e : ∀ c, (flat (x :: L)).getD ((i + 1) * 4 + c) 0 = (flat L).getD (i * 4 + c) 0 := fun c => by
      rw [show (i + 1) * 4 + c = i * 4 + c + 1 + 1 + 1 + 1 by omega]; rfl
    have e0 := e 0
    rw [Nat.add_zero, Nat.add_zero] at e0
    rw [e0, e 1, e 2, e 3]
    exact ih
theorem flat_inj {L M : List Ft} (h : flat L = flat M) : L = M := by
  induction L generalizing M with
  | nil => cases M with
    | nil => rfl
    | cons y M => simp [flat] at h
  | cons x L ih => cases M with
    | nil => simp [flat] at h
    | cons y M =>
      simp only [flat, List.cons.injEq] at h
      obtain ⟨h1, h2, h3, h4, h5⟩ := h
      rw [ih h5]
      obtain ⟨a, b, c, d⟩ := x
      obtain ⟨a', b', c', d'⟩ := y
      simp_all
end Go.Proofs.Ytainlanblpccjaa
