/- The proof's own lemmas, part 28: WnN WnE. -/
import Derived.Test.YtainlanblpccjaaMg17
import Derived.Test.YtainlanblpccjaaMg26
import Derived.Test.YtainlanblpccjaaProg
import Derived.Test.YtainlanblpccjaaMg14
import Derived.Deep.RegionHeld3
import Derived.RegionTactic
import Derived.ChangeAlike
/- Plain facts of RewriteHot and LevelMove: what they answer, and that a valid state stays valid. No program in it. -/
namespace Go.Proofs.Ytainlanblpccjaa
open Go.RowKit
set_option linter.unusedVariables false
/-- A block erased. -/
def ersW (M : We) (j : Nat) : We := ⟨M.e.set j (M.e.getD j 0 + 1), M.b, M.c.set j 0, M.n⟩
theorem ersW_sz {M : We} {j : Nat} (h : WeSz M) : WeSz (ersW M j) := by unfold WeSz ersW at *; simpa using h
/-- What RewriteHot answers. -/
def RwhIs (M : We) (r : Bool) (bk : Int) (G : We) (p c : Int) : Prop :=
  (r = false ∧ G = We.zero ∧ p = 0 ∧ c = 1) ∨
  (r = true ∧ ¬ (0 ≤ bk ∧ bk < (M.e.length : Int)) ∧ G = We.zero ∧ p = 0 ∧ c = 2) ∨
  (r = true ∧ (0 ≤ bk ∧ bk < (M.e.length : Int)) ∧ M.c.getD bk.toNat 0 ≠ 2 ∧ G = We.zero ∧ p = 0 ∧ c = 5) ∨
  (r = true ∧ (0 ≤ bk ∧ bk < (M.e.length : Int)) ∧ M.c.getD bk.toNat 0 = 2 ∧ M.e.getD bk.toNat 0 = 1000 ∧ G = We.zero ∧ p = 0 ∧ c = 7) ∨
  (r = true ∧ (0 ≤ bk ∧ bk < (M.e.length : Int)) ∧ M.c.getD bk.toNat 0 = 2 ∧ M.e.getD bk.toNat 0 ≠ 1000 ∧ plcV M true = -1 ∧ G = We.zero ∧ p = 0 ∧ c = 4) ∨
  (r = true ∧ (0 ≤ bk ∧ bk < (M.e.length : Int)) ∧ M.c.getD bk.toNat 0 = 2 ∧ M.e.getD bk.toNat 0 ≠ 1000 ∧ (0 ≤ plcV M true ∧ plcV M true < (M.e.length : Int)) ∧ G = ersW (plcM M true 2) bk.toNat ∧ p = plcV M true ∧ c = 0)
theorem rwhIs (M : We) (r : Bool) (bk : Int) : ∃ G p c, RwhIs M r bk G p c := by
  cases r with
  | false => exact ⟨_, _, _, .inl ⟨rfl, rfl, rfl, rfl⟩⟩
  | true =>
    by_cases h1 : 0 ≤ bk ∧ bk < (M.e.length : Int)
    case neg => exact ⟨_, _, _, .inr (.inl ⟨rfl, h1, rfl, rfl, rfl⟩)⟩
    by_cases h2 : M.c.getD bk.toNat 0 = 2
    case neg => exact ⟨_, _, _, .inr (.inr (.inl ⟨rfl, h1, h2, rfl, rfl, rfl⟩))⟩
    by_cases h3 : M.e.getD bk.toNat 0 = 1000
    case pos => exact ⟨_, _, _, .inr (.inr (.inr (.inl ⟨rfl, h1, h2, h3, rfl, rfl, rfl⟩)))⟩
    rcases plc_in M true with ⟨_, h⟩ | ⟨_, h4, h5⟩
    · exact ⟨_, _, _, .inr (.inr (.inr (.inr (.inl ⟨rfl, h1, h2, h3, h, rfl, rfl, rfl⟩))))⟩
    · exact ⟨_, _, _, .inr (.inr (.inr (.inr (.inr ⟨rfl, h1, h2, h3, ⟨h4, h5⟩, rfl, rfl, rfl⟩))))⟩
theorem plcM_sz {M : We} {hot : Bool} {v : Int} (h : WeSz M) : WeSz (plcM M hot v) := by unfold WeSz plcM at *; simpa using h
theorem rwhIs_sz {M : We} {r : Bool} {bk : Int} {G : We} {p c : Int} (h : RwhIs M r bk G p c) (z : WeSz M) : WeSz G := by
  rcases h with ⟨_, rfl, _⟩ | ⟨_, _, rfl, _⟩ | ⟨_, _, _, rfl, _⟩ | ⟨_, _, _, _, rfl, _⟩ | ⟨_, _, _, _, _, rfl, _⟩ | ⟨_, _, _, _, _, rfl, _⟩
  · exact We.zero_sz
  · exact We.zero_sz
  · exact We.zero_sz
  · exact We.zero_sz
  · exact We.zero_sz
  · exact ersW_sz (plcM_sz z)
/-- The least worn good block. -/
def lvB (M : We) : Int := statV M.e M.b []
def lvNeed (M : We) : Bool := decide (M.n < gapV M.e M.b true)
/-- The state behind a move. -/
def lvM (M : We) : We := ersW (if M.c.getD (lvB M).toNat 0 = 0 then M else plcM M false (M.c.getD (lvB M).toNat 0)) (lvB M).toNat
/-- What LevelMove answers. -/
def LvmIs (M : We) (r : Bool) (G : We) (c : Int) : Prop :=
  (r = false ∧ G = We.zero ∧ c = 1) ∨ (r = true ∧ lvNeed M = false ∧ G = We.zero ∧ c = 5) ∨
  (r = true ∧ lvNeed M = true ∧ M.c.getD (lvB M).toNat 0 ≠ 0 ∧ plcV M false = -1 ∧ G = We.zero ∧ c = 4) ∨
  (r = true ∧ lvNeed M = true ∧ (M.c.getD (lvB M).toNat 0 = 0 ∨ M.c.getD (lvB M).toNat 0 ≠ 0 ∧ 0 ≤ plcV M false ∧ plcV M false < (M.e.length : Int)) ∧ G = lvM M ∧ c = 0)
theorem lvmIs (M : We) (r : Bool) : ∃ G c, LvmIs M r G c := by
  cases r with
  | false => exact ⟨_, _, .inl ⟨rfl, rfl, rfl⟩⟩
  | true =>
    cases h1 : lvNeed M with
    | false => exact ⟨_, _, .inr (.inl ⟨rfl, h1, rfl, rfl⟩)⟩
    | true =>
      by_cases h2 : M.c.getD (lvB M).toNat 0 = 0
      · exact ⟨_, _, .inr (.inr (.inr ⟨rfl, h1, .inl h2, rfl, rfl⟩))⟩
      · rcases plc_in M false with ⟨_, h⟩ | ⟨_, h4, h5⟩
        · exact ⟨_, _, .inr (.inr (.inl ⟨rfl, h1, h2, h, rfl, rfl⟩))⟩
        · exact ⟨_, _, .inr (.inr (.inr ⟨rfl, h1, .inr ⟨h2, h4, h5⟩, rfl, rfl⟩))⟩
theorem lvM_sz {M : We} (z : WeSz M) : WeSz (lvM M) := by
  unfold lvM
  split
  · exact ersW_sz z
  · exact ersW_sz (plcM_sz z)
theorem lvmIs_sz {M : We} {r : Bool} {G : We} {c : Int} (h : LvmIs M r G c) (z : WeSz M) : WeSz G := by
  rcases h with ⟨_, rfl, _⟩ | ⟨_, _, rfl, _⟩ | ⟨_, _, _, _, rfl, _⟩ | ⟨_, _, _, rfl, _⟩
  · exact We.zero_sz
  · exact We.zero_sz
  · exact We.zero_sz
  · exact lvM_sz z
theorem statL_nil (b : List Bool) (k : Nat) : statL b [] k = goodL b k := by
  unfold statL
  rw [List.filter_eq_self.2]
  intro x hx; simp
/-- A gap: there is a good block, and the least worn one is a block. -/
theorem lvB_in {M : We} (h : lvNeed M = true) (h1 : 1 ≤ M.n) : 0 ≤ lvB M ∧ lvB M < (M.e.length : Int) := by
  have hg : M.n < gapV M.e M.b true := of_decide_eq_true h
  have hne : (goodL M.b M.e.length).length ≠ 0 := by
    intro e
    have e2 : goodL M.b M.e.length = [] := List.eq_nil_of_length_eq_zero e
    unfold gapV gcL at hg
    rw [e2] at hg
    simp [cntL, hiL, loL] at hg
    omega
  unfold lvB statV firstV
  have hl : (statL M.b [] M.e.length).length ≠ 0 := by rw [statL_nil]; exact hne
  rcases bestF_in (er := M.e) (c := byNum (ordE M.e true)) (k := (statL M.b [] M.e.length).length) (statL_mem M.b [] M.e.length) with ⟨h0, _⟩ | ⟨_, h2, h3⟩
  · exact absurd h0 hl
  · exact ⟨h2, h3⟩
/-- The good blocks are good. -/
theorem goodL_good (b : List Bool) (k : Nat) : ∀ x, x ∈ goodL b k → (0 ≤ x ∧ x < (k : Int)) ∧ b.getD x.toNat false = false := by
  induction k with
  | zero => intro x hx; simp [goodL] at hx
  | succ k ih =>
    intro x hx
    unfold goodL at hx
    split at hx
    · have := ih x hx; exact ⟨⟨this.1.1, by omega⟩, this.2⟩
    · rename_i hb
      rcases List.mem_append.1 hx with h | h
      · have := ih x h; exact ⟨⟨this.1.1, by omega⟩, this.2⟩
      · have e : x = (k : Int) := by simpa using h
        subst e
        refine ⟨⟨by omega, by omega⟩, ?_⟩
        simpa using hb
theorem mem_goodL {b : List Bool} {k i : Nat} (h : i < k) (hb : b.getD i false = false) : (i : Int) ∈ goodL b k := by
  induction k with
  | zero => omega
  | succ k ih =>
    unfold goodL
    by_cases e : i = k
    · subst e; rw [if_neg (by rw [hb]; decide)]; simp
    · have := ih (by omega)
      split
      · exact this
      · exact List.mem_append_left _ this
theorem plc_free (M : We) (hot : Bool) (h : 0 ≤ plcV M hot) : plcV M hot ∈ freeW M := by
  rcases plc_in M hot with ⟨_, e⟩ | ⟨hne, h1, h2⟩
  · omega
  · unfold plcV pickV at *
    rw [if_pos rfl] at *
    unfold firstV at *
    cases hk : (freeW M).length with
    | zero => exact absurd (List.eq_nil_of_length_eq_zero hk) hne
    | succ k =>
      obtain ⟨i, hi, e⟩ := bestBy_at (byNum (ordE M.e hot)) (freeW M) k
      show bestBy (byNum (ordE M.e hot)) (freeW M) k ∈ freeW M
      rw [e]
      exact mem_getD (by omega)
theorem freeW_free (M : We) : ∀ x, x ∈ freeW M → (0 ≤ x ∧ x < (M.e.length : Int)) ∧ M.b.getD x.toNat false = false ∧ M.c.getD x.toNat 0 = 0 := by
  intro x hx
  unfold freeW freeL at hx
  obtain ⟨h1, h2⟩ := List.mem_filter.1 hx
  have := goodL_good M.b M.e.length x h1
  refine ⟨this.1, this.2, ?_⟩
  unfold usedP at h2
  simpa using h2
theorem getD_set_ {l : List Int} {i j : Nat} {v : Int} (h : i < l.length) : (l.set i v).getD j 0 = if i = j then v else l.getD j 0 := by
  simp only [List.getD_eq_getElem?_getD, List.getElem?_set]
  split
  · rename_i e; subst e; simp
  · rfl
/-- A state with data placed is valid. -/
theorem plcM_ok {M : We} {hot : Bool} {v : Int} (o : WeOk M) (hp : 0 ≤ plcV M hot) (hv : 0 ≤ v ∧ v ≤ 2) : WeOk (plcM M hot v) := by
  have hf := freeW_free M _ (plc_free M hot hp)
  obtain ⟨o1, o2, o3, o4, o5⟩ := o
  refine ⟨o1, o2, by unfold plcM; simpa using o3, o4, fun i hi => ?_⟩
  have hi2 : i < M.e.length := hi
  have := o5 i hi2
  unfold WlOk at this ⊢
  unfold plcM
  simp only
  rw [getD_set_ (by omega)]
  split
  · rename_i e
    refine ⟨this.1, hv, .inr ?_⟩
    rw [← e]; exact hf.2.1
  · exact this
theorem ersW_ok {M : We} {j : Nat} (o : WeOk M) (hj : j < M.e.length) (he : M.e.getD j 0 < 1000) : WeOk (ersW M j) := by
  obtain ⟨o1, o2, o3, o4, o5⟩ := o
  refine ⟨by unfold ersW; simpa using o1, by unfold ersW; simpa using o2, by unfold ersW; simpa using o3, o4, fun i hi => ?_⟩
  have hi2 : i < M.e.length := by unfold ersW at hi; simpa using hi
  have := o5 i hi2
  have hj2 := o5 j hj
  unfold WlOk at this hj2 ⊢
  unfold ersW
  simp only
  rw [getD_set_ hj, getD_set_ (by omega)]
  split
  · rename_i e
    exact ⟨by omega, by omega, .inl rfl⟩
  · exact this
end Go.Proofs.Ytainlanblpccjaa
/- A block erased: in the model (l12Erase) and in the program (erase). -/
namespace Go.Proofs.Ytainlanblpccjaa
open Go.RowKit
set_option linter.unusedVariables false
set_option linter.unusedSimpArgs false
/-- A state of the call's own, its rows of counts and of contents by name. -/
structure WeRow (w : World) (lo hi gE nE cE gC nC cC : Nat) (AB : Option Addr) (nB cB : Nat) (G : We) : Prop where
  own : WeOwn w lo hi (.agg #[.slice (some ⟨gE, 0, none⟩) nE cE, .slice AB nB cB, .slice (some ⟨gC, 0, none⟩) nC cC, .int .i64 G.n]) G
  lenE : G.e.length = nE
  lenC : G.c.length = nC
  loE : lo ≤ gE
  hiE : gE < hi
  loC : lo ≤ gC
  hiC : gC < hi
  ne : gE ≠ gC
theorem own_len {w : World} {B n c : Nat} {A : Option Addr} {L : List Int} (h : IntsOwn w B (.slice A n c) L) : L.length = n := by
  rcases h.shape with ⟨e, rfl⟩ | ⟨g, cap, e, _⟩
  · injection e with _ e _; simpa using e.symm
  · injection e with _ e _; exact e.symm
theorem WeOwn.rows {w : World} {lo hi : Nat} {u : Value} {G : We} (h : WeOwn w lo hi u G) (h1 : 0 < G.e.length) (h2 : 0 < G.c.length) :
    ∃ gE nE cE gC nC cC AB nB cB, u = .agg #[.slice (some ⟨gE, 0, none⟩) nE cE, .slice AB nB cB, .slice (some ⟨gC, 0, none⟩) nC cC, .int .i64 G.n] ∧ WeRow w lo hi gE nE cE gC nC cC AB nB cB G := by
  have h0 := h
  obtain ⟨a0, a1, a2, rfl, ⟨oE, lE⟩, ⟨oB, lB⟩, ⟨oC, lC⟩, x01, x02, x12⟩ := h
  obtain ⟨AE, nE, cE, rfl⟩ := oE.sliceOf'
  obtain ⟨AB, nB, cB, rfl⟩ := oB.sliceOf
  obtain ⟨AC, nC, cC, rfl⟩ := oC.sliceOf'
  obtain ⟨gE, rfl⟩ := own_someC oE h1
  obtain ⟨gC, rfl⟩ := own_someC oC h2
  refine ⟨gE, nE, cE, gC, nC, cC, AB, nB, cB, rfl, h0, own_len oE, own_len oC, (oE.blockOf (k := gE) rfl).1, lE gE rfl, (oC.blockOf (k := gC) rfl).1, lC gC rfl, ?_⟩
  rintro rfl
  rcases x02 with e | e
  · cases e
  · exact e rfl
section
variable {w w' : World} {lo hi gE nE cE gC nC cC nB cB : Nat} {AB : Option Addr} {G : We}
theorem WeRow.parts (h : WeRow w lo hi gE nE cE gC nC cC AB nB cB G) : IntsOwn w lo (.slice (some ⟨gE, 0, none⟩) nE cE) G.e ∧ BW w lo hi (.slice AB nB cB) G.b ∧ IntsOwn w lo (.slice (some ⟨gC, 0, none⟩) nC cC) G.c ∧ (∀ k, (Value.slice AB nB cB).ownBlock = some k → k ≠ gE ∧ k ≠ gC) := by
  obtain ⟨a0, a1, a2, e, ⟨oE, lE⟩, oB, ⟨oC, lC⟩, x01, x02, x12⟩ := h.own
  unfold wec at e
  injection e with e; injection e with e; injection e with e1 e; injection e with e2 e; injection e with e3 e
  subst e1; subst e2; subst e3
  refine ⟨oE, oB, oC, fun k hk => ⟨?_, ?_⟩⟩
  · rintro rfl
    rcases x01 with e | e
    · cases e
    · exact e hk.symm
  · rintro rfl
    rcases x12 with e | e
    · rw [e] at hk; cases hk
    · exact e hk
theorem WeRow.same (h : WeRow w lo hi gE nE cE gC nC cC AB nB cB G) (hs : Same lo hi w w') : WeRow w' lo hi gE nE cE gC nC cC AB nB cB G :=
  ⟨h.own.same hs, h.lenE, h.lenC, h.loE, h.hiE, h.loC, h.hiC, h.ne⟩
theorem WeRow.wide {hi' : Nat} (h : WeRow w lo hi gE nE cE gC nC cC AB nB cB G) (hh : hi ≤ hi') : WeRow w lo hi' gE nE cE gC nC cC AB nB cB G :=
  ⟨h.own.wide (Nat.le_refl _) hh, h.lenE, h.lenC, h.loE, Nat.lt_of_lt_of_le h.hiE hh, h.loC, Nat.lt_of_lt_of_le h.hiC hh, h.ne⟩
theorem WeRow.cellE (h : WeRow w lo hi gE nE cE gC nC cC AB nB cB G) {j : Nat} (hj : j < nE) : w.cell? ⟨gE, j, none⟩ = some (.int .i64 (G.e.getD j 0)) := h.parts.1.cell h.lenE hj
theorem WeRow.cellC (h : WeRow w lo hi gE nE cE gC nC cC AB nB cB G) {j : Nat} (hj : j < nC) : w.cell? ⟨gC, j, none⟩ = some (.int .i64 (G.c.getD j 0)) := h.parts.2.2.1.cell h.lenC hj
theorem WeRow.freeE (h : WeRow w lo hi gE nE cE gC nC cC AB nB cB G) (j : Nat) : w.frozen? ⟨gE, j, none⟩ = false := h.parts.1.free h.lenE j
theorem WeRow.freeC (h : WeRow w lo hi gE nE cE gC nC cC AB nB cB G) (j : Nat) : w.frozen? ⟨gC, j, none⟩ = false := h.parts.2.2.1.free h.lenC j
/-- A count written. -/
theorem WeRow.setE (h : WeRow w lo hi gE nE cE gC nC cC AB nB cB G) (j : Nat) (x : Int) : WeRow (w.setCell ⟨gE, j, none⟩ (.int .i64 x)) lo hi gE nE cE gC nC cC AB nB cB ⟨G.e.set j x, G.b, G.c, G.n⟩ := by
  obtain ⟨oE, ⟨oB, lB⟩, oC, hB⟩ := h.parts
  have hne := h.ne
  refine ⟨⟨_, _, _, rfl, ⟨oE.stored h.lenE j x, fun k e => ?_⟩, ⟨oB.sames fun k e => ?_, lB⟩, ⟨oC.sames fun k e => ?_, fun k e => ?_⟩, ?_, ?_, ?_⟩, by simpa using h.lenE, h.lenC, h.loE, h.hiE, h.loC, h.hiC, hne⟩
  · obtain rfl : gE = k := Option.some.inj e; exact h.hiE
  · exact Below.heap_setCell _ ⟨gE, j, none⟩ _ k (hB k e).1
  · obtain rfl : gC = k := Option.some.inj e; exact Below.heap_setCell _ ⟨gE, j, none⟩ _ gC (fun e => hne e.symm)
  · obtain rfl : gC = k := Option.some.inj e; exact h.hiC
  · exact .inr fun e => (hB gE e.symm).1 rfl
  · exact .inr fun e => hne (Option.some.inj e)
  · cases hq : (Value.slice AB nB cB).ownBlock with
    | none => exact .inl rfl
    | some k => exact .inr fun e => (hB k hq).2 (Option.some.inj e)
/-- A content written. -/
theorem WeRow.setC (h : WeRow w lo hi gE nE cE gC nC cC AB nB cB G) (j : Nat) (x : Int) : WeRow (w.setCell ⟨gC, j, none⟩ (.int .i64 x)) lo hi gE nE cE gC nC cC AB nB cB ⟨G.e, G.b, G.c.set j x, G.n⟩ := by
  obtain ⟨oE, ⟨oB, lB⟩, oC, hB⟩ := h.parts
  have hne := h.ne
  refine ⟨⟨_, _, _, rfl, ⟨oE.sames fun k e => ?_, fun k e => ?_⟩, ⟨oB.sames fun k e => ?_, lB⟩, ⟨oC.stored h.lenC j x, fun k e => ?_⟩, ?_, ?_, ?_⟩, h.lenE, by simpa using h.lenC, h.loE, h.hiE, h.loC, h.hiC, hne⟩
  · obtain rfl : gE = k := Option.some.inj e; exact Below.heap_setCell _ ⟨gC, j, none⟩ _ gE hne
  · obtain rfl : gE = k := Option.some.inj e; exact h.hiE
  · exact Below.heap_setCell _ ⟨gC, j, none⟩ _ k (hB k e).2
  · obtain rfl : gC = k := Option.some.inj e; exact h.hiC
  · exact .inr fun e => (hB gE e.symm).1 rfl
  · exact .inr fun e => hne (Option.some.inj e)
  · cases hq : (Value.slice AB nB cB).ownBlock with
    | none => exact .inl rfl
    | some k => exact .inr fun e => (hB k hq).2 (Option.some.inj e)
end
set_option maxHeartbeats 4000000 in
set_option maxRecDepth 100000 in
theorem specErs_any (G : We) (j : Nat) (lo hi gE nE cE gC nC cC : Nat) (AB : Option Addr) (nB cB : Nat) (w : World) (h : WeRow w lo hi gE nE cE gC nC cC AB nB cB G) (hh : hi ≤ w.heap.size) (hl : lo ≤ w.heap.size) (hj : j < nE) (hc : nC = nE) (h0 : 0 ≤ G.e.getD j 0) (h1 : G.e.getD j 0 ≤ 1000) (hn : nE ≤ 36) :
    Calls Try.prog 84 #[.agg #[.slice (some ⟨gE, 0, none⟩) nE cE, .slice AB nB cB, .slice (some ⟨gC, 0, none⟩) nC cC, .int .i64 G.n], .int .i64 (j : Int)] w fun e w' => ∃ u, e = .returned u ∧ WeOwn w' lo w'.heap.size u (ersW G j) ∧ Below lo w w' := by
  subst hc
  obtain ⟨x, hx⟩ : ∃ x, x = G.e.getD j 0 := ⟨_, rfl⟩
  obtain ⟨n0, hn0⟩ : ∃ n, n = G.n := ⟨_, rfl⟩
  have HG := Lib.hid (show ersW G j = ⟨G.e.set j (x + 1), G.b, G.c.set j 0, n0⟩ by unfold ersW; rw [hx, hn0])
  obtain ⟨r0, r1, bb⟩ := Rw.two_new w 27 27 #[.slice (some ⟨gE, 0, none⟩) nC cE, .slice AB nB cB, .slice (some ⟨gC, 0, none⟩) nC cC, .int .i64 G.n] #[.slice none 0 0, .slice none 0 0, .slice none 0 0, .int .i64 0]
  obtain ⟨W0, hW0⟩ : ∃ W0, W0 = (w.alloc (.cells #[.slice (some ⟨gE, 0, none⟩) nC cE, .slice AB nB cB, .slice (some ⟨gC, 0, none⟩) nC cC, .int .i64 G.n] 27)).alloc (.cells #[.slice none 0 0, .slice none 0 0, .slice none 0 0, .int .i64 0] 27) := ⟨_, rfl⟩
  have hz0 : W0.heap.size = w.heap.size + 2 := by rw [hW0]; simp
  rw [← hW0] at r0 r1 bb
  rw [← hn0] at r0 hW0 ⊢
  have hE0 := h.loE
  have hE1 := h.hiE
  have hC0 := h.loC
  have hC1 := h.hiC
  have H0 := h.same (sm bb lo hh)
  have H1 := H0.setE j (x + 1)
  have H2 := H1.setC j 0
  obtain ⟨W1, hW1⟩ : ∃ W, W = W0.setCell ⟨gE, j, none⟩ (.int .i64 (x + 1)) := ⟨_, rfl⟩
  rw [← hW1] at H1 H2
  obtain ⟨W2, hW2⟩ : ∃ W, W = W1.setCell ⟨gC, j, none⟩ (.int .i64 0) := ⟨_, rfl⟩
  rw [← hW2] at H2
  have r01 := r0.farA (g' := gE) (k := j) (by omega) (.int .i64 (x + 1))
  have r11 := r1.farA (g' := gE) (k := j) (by omega) (.int .i64 (x + 1))
  have b1 := bset (bb.mono hl) (g := gE) (k := j) hE0 (.int .i64 (x + 1))
  rw [← hW1] at r01 r11 b1
  have r02 := r01.farA (g' := gC) (k := j) (by omega) (.int .i64 0)
  have r12 := r11.farA (g' := gC) (k := j) (by omega) (.int .i64 0)
  have b2 := bset b1 (g := gC) (k := j) hC0 (.int .i64 0)
  rw [← hW2] at r02 r12 b2
  have hz1 : W1.heap.size = w.heap.size + 2 := by rw [hW1]; simpa using hz0
  have hz2 : W2.heap.size = w.heap.size + 2 := by rw [hW2]; simpa using hz1
  have hjI : (j : Int) < (nC : Int) := by omega
  have hj0 : (0 : Int) ≤ (j : Int) := by omega
  have hw : IntKind.i64.wrap (x + 1) = x + 1 := IntWalk.i64_in _ (by omega)
  have zE := H0.cellE (j := j) hj
  rw [← hx] at zE
  have fE := H0.freeE j
  have zC := H1.cellC (j := j) hj
  have fC := H1.freeC j
  obtain ⟨q0, q1, q2, q3⟩ := r0.four
  have HH := Lib.hid (show WeOwn W2 lo hi (.agg #[.slice (some ⟨gE, 0, none⟩) nC cE, .slice AB nB cB, .slice (some ⟨gC, 0, none⟩) nC cC, .int .i64 n0]) ⟨G.e.set j (x + 1), G.b, G.c.set j 0, n0⟩ by rw [hn0]; exact H2.own)
  have R0 := Lib.hid r01
  have R2 := Lib.hid r02
  have R3 := Lib.hid r12
  have B2 := Lib.hid b2
  have HZ := Lib.hid hz2
  have HW := Lib.hid hW2
  have HHH := Lib.hid hh
  have HHL := Lib.hid hl
  clear h H0 H1 H2 hx hn0 r0 r1 r01 r11 r02 r12 b1 b2 hW2 hz0 hz1 hz2 bb h0 h1 hh hl hE0 hE1 hC0 hC1
  go_enter Try.func84, Try.ntmps84
  go_upto_region 1 with fail
  rw [← hW0]
  clear hW0
  go_region
  go_upto_region 2 with fail
  rw [← hW1]
  clear hW1 q0 q1 q2 q3 zE fE
  obtain ⟨q0, q1, q2, q3⟩ := R0.out.four
  go_upto_region 3 with fail
  rw [← HW.out]
  clear q0 q1 q2 q3 zC fC
  obtain ⟨q0, q1, q2, q3⟩ := R2.out.four
  obtain ⟨d0, d1, d2, d3⟩ := R3.out.four
  obtain ⟨f0, f1, f2, f3, _, _, _, _⟩ := R3.out.frees
  go_wp2
  refine bodyPost_ret (results_cell_row Try.results84 _ _ _ _ #[.slice (some ⟨gE, 0, none⟩) nC cE, .slice AB nB cB, .slice (some ⟨gC, 0, none⟩) nC cC, .int .i64 n0] _ _ rfl ((((R3.out.set_ 0 _).set_ 1 _).set_ 2 _).set_ 3 _) Try.underlying27 rfl infoWe) rfl ⟨_, rfl, ?_, ?_⟩
  · rw [HG.out]
    have hz := HZ.out
    have hh := HHH.out
    refine WeOwn.wide (lo := lo) (hi := hi) (HH.out.same (sm (B := w.heap.size) ?_ lo hh)) (Nat.le_refl _) ?_
    · refine Below.drew ?_
      refine bset ?_ (by omega) _
      refine bset ?_ (by omega) _
      refine bset ?_ (by omega) _
      refine bset ?_ (by omega) _
      exact Below.refl _ _
    · simp
      omega
  · have hh := HHL.out
    refine Below.drew ?_
    refine bset ?_ (by omega) _
    refine bset ?_ (by omega) _
    refine bset ?_ (by omega) _
    refine bset ?_ (by omega) _
    exact B2.out
set_option maxHeartbeats 4000000 in
set_option maxRecDepth 100000 in
theorem implErs_any (g j : Nat) (nb : Int) (lo hi gE nE cE gC nC cC : Nat) (AB : Option Addr) (nB cB : Nat) (G : We) (w : World) (hR : Rw w g 27 #[.slice (some ⟨gE, 0, none⟩) nE cE, .slice AB nB cB, .slice (some ⟨gC, 0, none⟩) nC cC, .int .i64 nb]) (h : WeRow w lo hi gE nE cE gC nC cC AB nB cB G) (hj : j < nE) (hc : nC = nE) (h0 : 0 ≤ G.e.getD j 0) (h1 : G.e.getD j 0 ≤ 1000) (hn : nE ≤ 36) (hgE : g ≠ gE) (hgC : g ≠ gC) :
    Calls Try.prog 86 #[.pointer (some ⟨g, 0, none⟩), .int .i64 (j : Int)] w fun e w' => e = .returned (.tuple #[]) ∧ w' = (w.setCell ⟨gE, j, none⟩ (.int .i64 (G.e.getD j 0 + 1))).setCell ⟨gC, j, none⟩ (.int .i64 0) := by
  subst hc
  obtain ⟨x, hx⟩ : ∃ x, x = G.e.getD j 0 := ⟨_, rfl⟩
  rw [← hx] at h0 h1 ⊢
  have H1 := h.setE j (x + 1)
  obtain ⟨W1, hW1⟩ : ∃ W, W = w.setCell ⟨gE, j, none⟩ (.int .i64 (x + 1)) := ⟨_, rfl⟩
  have r01 := hR.farA (g' := gE) (k := j) hgE (.int .i64 (x + 1))
  rw [← hW1] at H1 r01 ⊢
  have hjI : (j : Int) < (nC : Int) := by omega
  have hj0 : (0 : Int) ≤ (j : Int) := by omega
  have hw : IntKind.i64.wrap (x + 1) = x + 1 := IntWalk.i64_in _ (by omega)
  have zE := h.cellE (j := j) hj
  rw [← hx] at zE
  have fE := h.freeE j
  have zC := H1.cellC (j := j) hj
  have fC := H1.freeC j
  obtain ⟨q0, q1, q2, q3⟩ := hR.four
  have R0 := Lib.hid r01
  have HW := Lib.hid hW1
  clear h H1 hx hR r01 h0 h1 hW1
  go_enter Try.func86, Try.ntmps86
  go_upto_region 1 with fail
  rw [← HW.out]
  clear q0 q1 q2 q3 zE fE
  obtain ⟨q0, q1, q2, q3⟩ := R0.out.four
  go_wp2
  go_end0
  exact ⟨rfl, rfl⟩
set_option maxHeartbeats 4000000 in
set_option maxRecDepth 100000 in
theorem implHas12_any (g n c : Nat) (A : Option Addr) (v2 v3 v4 : Value) (bk : Int) (r : Bool) (w : World) (hR : Rw w g 27 #[.slice A n c, v2, v3, v4]) (hr : r = true ↔ (0 ≤ bk ∧ bk < (n : Int))) :
    Calls Try.prog 85 #[.pointer (some ⟨g, 0, none⟩), .int .i64 bk] w fun e w' => e = .returned (.bool r) ∧ w = w' := by
  have q0 := hR.four.1
  have HR := Lib.hid hr
  clear hR hr
  go_enter Try.func85, Try.ntmps85
  by_cases h1 : 0 ≤ bk
  · have d1 : decide (0 ≤ bk) = true := by simp; exact h1
    have d1' : decide (bk ≥ 0) = true := by simp; exact h1
    by_cases h2 : bk < (n : Int)
    · have d2 : decide (bk < (n : Int)) = true := by simp; exact h2
      go_wp2
      go_ret
      exact ⟨by rw [HR.out.2 (by omega)]; rfl, rfl⟩
    · have d2 : decide (bk < (n : Int)) = false := by simp; omega
      go_wp2
      go_ret
      exact ⟨by rw [not_true HR.out (fun e => by omega)]; rfl, rfl⟩
  · have d1 : decide (0 ≤ bk) = false := by simp; omega
    have d1' : decide (bk ≥ 0) = false := by simp; omega
    go_wp2
    go_ret
    exact ⟨by rw [not_true HR.out (fun e => by omega)]; rfl, rfl⟩
end Go.Proofs.Ytainlanblpccjaa
