/- The proof's own lemmas, part 65: FlH. -/
import Derived.Test.YtainlanblpccjaaProg
import Derived.Test.YtainlanblpccjaaMg57
/- cloneFlash: the contract. -/
namespace Go.Proofs.Ytainlanblpccjaa
open Go.RowKit
set_option linter.unusedVariables false
/-- Block g is a row of the blocks L whose pages' slices are pv 0, pv 1, ..; nothing of it is frozen. -/
structure RB (w : World) (g : Nat) (pv : Nat → Value) (L : List Blk) : Prop where
  lt : g < w.heap.size
  free : ∀ k, w.frozen? ⟨g, k, none⟩ = false
  row : ∀ i, i < L.length → BkAt w g (i * 4) (L.getD i Blk.zero) (pv i)
section
variable {w w' : World} {g : Nat} {pv : Nat → Value} {L : List Blk}
theorem RB.same (h : RB w g pv L) (hs : w'.heap[g]? = w.heap[g]?) (hz : w.heap.size ≤ w'.heap.size) : RB w' g pv L := by
  have hsm : Same g (g + 1) w w' := fun j a b => by obtain rfl : j = g := by omega
                                                    exact hs
  exact ⟨Nat.lt_of_lt_of_le h.lt hz, fun k => (hsm.frozen (p := ⟨g, k, none⟩) (Nat.le_refl _) (by simp)).trans (h.free k), fun i hi => (h.row i hi).same hsm (Nat.le_refl _) (by simp)⟩
theorem RB.fill (h : RB w g pv L) {k : Nat} (hk : k < L.length) (x : Blk) (u : Value) :
    RB ((((w.setCell ⟨g, k * 4, none⟩ (.int .i64 x.er)).setCell ⟨g, k * 4 + 1, none⟩ (.int .i64 x.nx)).setCell ⟨g, k * 4 + 2, none⟩ (.bool x.bad)).setCell ⟨g, k * 4 + 3, none⟩ u) g (fun i => if i = k then u else pv i) (L.set k x) := by
  refine ⟨by simpa using h.lt, fun j => by simp only [World.frozen?_setCell]; exact h.free j, fun i hi' => ?_⟩
  rw [List.length_set] at hi'
  by_cases e : i = k
  · subst e
    rw [getD_set_eq _ _ _ _ hk, if_pos rfl]
    obtain ⟨r0, r1, r2, r3⟩ := h.row i hi'
    refine ⟨?_, ?_, ?_, ?_⟩
    · rw [World.cell?_setCell_other _ _ _ _ (addr_ne fun _ => by omega), World.cell?_setCell_other _ _ _ _ (addr_ne fun _ => by omega), World.cell?_setCell_other _ _ _ _ (addr_ne fun _ => by omega)]
      exact World.cell?_setCell_same w _ _ r0
    · rw [World.cell?_setCell_other _ _ _ _ (addr_ne fun _ => by omega), World.cell?_setCell_other _ _ _ _ (addr_ne fun _ => by omega)]
      exact World.cell?_setCell_same _ _ _ ((World.cell?_setCell_other w _ _ _ (addr_ne fun _ => by omega)).trans r1)
    · rw [World.cell?_setCell_other _ _ _ _ (addr_ne fun _ => by omega)]
      exact World.cell?_setCell_same _ _ _ ((World.cell?_setCell_other _ _ _ _ (addr_ne fun _ => by omega)).trans ((World.cell?_setCell_other w _ _ _ (addr_ne fun _ => by omega)).trans r2))
    · exact World.cell?_setCell_same _ _ _ ((World.cell?_setCell_other _ _ _ _ (addr_ne fun _ => by omega)).trans ((World.cell?_setCell_other _ _ _ _ (addr_ne fun _ => by omega)).trans ((World.cell?_setCell_other w _ _ _ (addr_ne fun _ => by omega)).trans r3)))
  · rw [getD_set_ne _ _ _ _ _ (fun e' => e e'.symm), if_neg e]
    obtain ⟨r0, r1, r2, r3⟩ := h.row i hi'
    have o : ∀ j t, j < 4 → w.cell? ⟨g, i * 4 + j, none⟩ = some t → ((((w.setCell ⟨g, k * 4, none⟩ (.int .i64 x.er)).setCell ⟨g, k * 4 + 1, none⟩ (.int .i64 x.nx)).setCell ⟨g, k * 4 + 2, none⟩ (.bool x.bad)).setCell ⟨g, k * 4 + 3, none⟩ u).cell? ⟨g, i * 4 + j, none⟩ = some t := fun j t hj ht => by
      rw [World.cell?_setCell_other _ _ _ _ (addr_ne fun _ => by omega), World.cell?_setCell_other _ _ _ _ (addr_ne fun _ => by omega), World.cell?_setCell_other _ _ _ _ (addr_ne fun _ => by omega), World.cell?_setCell_other _ _ _ _ (addr_ne fun _ => by omega)]; exact ht
    exact ⟨o 0 _ (by omega) r0, o 1 _ (by omega) r1, o 2 _ (by omega) r2, o 3 _ (by omega) r3⟩
end
theorem RB.congr {w : World} {g : Nat} {pv pv' : Nat → Value} {L : List Blk} (h : RB w g pv L) (e : ∀ i, i < L.length → pv i = pv' i) : RB w g pv' L :=
  ⟨h.lt, h.free, fun i hi => by rw [← e i hi]; exact h.row i hi⟩
theorem StrsOwn.blk {w w' : World} {B g n c : Nat} {L : List ByteArray} (h : StrsOwn w B (.slice (some ⟨g, 0, none⟩) n c) L) (hs : w'.heap[g]? = w.heap[g]?) : StrsOwn w' B (.slice (some ⟨g, 0, none⟩) n c) L := by
  refine ⟨h.1, ?_⟩
  rcases h.2 with ⟨e, _⟩ | ⟨g', cap, cur, e1, e2, e3, e4⟩
  · cases e
  · have : g' = g := by injection e1 with e1; injection e1 with e1; injection e1 with e1; exact e1.symm
    subst this
    exact .inr ⟨g', cap, cur, e1, e2, hs.trans e3, e4⟩
/-- All pages of the blocks L, one behind the other. -/
def flatH (L : List Blk) : List ByteArray := L.flatMap (·.pg)
theorem flatH_len {L : List Blk} {P : Nat} (h : ∀ x ∈ L, x.pg.length = P) : (flatH L).length = L.length * P := by
  unfold flatH
  induction L with
  | nil => simp
  | cons x L ih => rw [List.flatMap_cons, List.length_append, ih (fun y hy => h y (List.mem_cons_of_mem _ hy)), h x (List.mem_cons_self ..), List.length_cons, Nat.succ_mul]; omega
theorem flatH_push (L : List Blk) (x : Blk) : flatH (L ++ [x]) = flatH L ++ x.pg := by simp [flatH]
theorem flatAtH {P : Nat} : ∀ {L : List Blk}, (∀ x ∈ L, x.pg.length = P) → ∀ {i j : Nat}, i < L.length → j < P → (flatH L).getD (i * P + j) ByteArray.empty = (L.getD i Blk.zero).pg.getD j ByteArray.empty
  | [], _, i, j, hi, _ => by simp at hi
  | x :: L, h, i, j, hi, hj => by
    have hx := h x (List.mem_cons_self ..)
    have e : flatH (x :: L) = x.pg ++ flatH L := by simp [flatH]
    rw [e]
    match i with
    | 0 =>
      rw [Nat.zero_mul, Nat.zero_add, List.getD_eq_getElem?_getD, List.getElem?_append_left (by omega)]
      rfl
    | i + 1 =>
      have ih := flatAtH (L := L) (fun y hy => h y (List.mem_cons_of_mem _ hy)) (i := i) (j := j) (by simpa using hi) hj
      have e2 : (i + 1) * P + j - x.pg.length = i * P + j := by rw [hx, Nat.succ_mul]; omega
      rw [List.getD_eq_getElem?_getD, List.getElem?_append_right (by rw [hx, Nat.succ_mul]; omega), e2, ← List.getD_eq_getElem?_getD, ih]
      rfl
/-- Off a row and one block of pages: the blocks are the call's own. -/
theorem BO.split {w : World} {B g h P : Nat} {L : List Blk} {cap : Nat} (hb : RB w g (fun i => .slice (some ⟨h, i * P, none⟩) P P) L) (hp : StrsOwn w B (.slice (some ⟨h, 0, none⟩) (L.length * P) cap) (flatH L)) (hL : ∀ x ∈ L, x.pg.length = P)
    (hg : B ≤ g) (hne : h ≠ g) (hP : P ≤ 9223372036854775807) (hs : ∀ i, i < L.length → ∀ j, j < (L.getD i Blk.zero).pg.length → ((L.getD i Blk.zero).pg.getD j ByteArray.empty).size ≤ 9223372036854775807) : BO w B w.heap.size g (fun i => .slice (some ⟨h, i * P, none⟩) P P) L := by
  have hfl := flatH_len hL
  have hlen : ∀ i, i < L.length → (L.getD i Blk.zero).pg.length = P := fun i hi => by
    rw [List.getD_eq_getElem?_getD, List.getElem?_eq_getElem hi]; exact hL _ (List.getElem_mem hi)
  refine ⟨hg, hb.lt, hb.free, hb.row, fun i hi => ⟨_, _, _, rfl, Nat.le_refl _, hP, hlen i hi, fun j hj => hs i hi j (by rw [hlen i hi]; exact hj), fun h0 => ?_⟩, fun i j hi hj hne a n c a' n' c' e1 e2 h1 h2 => ?_⟩
  · have hsh : B ≤ h ∧ h < w.heap.size := by
      rcases hp.shape with ⟨e, _⟩ | ⟨g', cap', e, _, _, h3, h4⟩
      · cases e
      · injection e with e1 e2 e3
        injection e1 with e1
        injection e1 with e1
        subst e1
        exact ⟨h3, h4⟩
    refine ⟨h, i * P, rfl, hsh.1, hsh.2, hne, hp.free hfl, fun j hj => ?_⟩
    have hij : i * P + j < L.length * P := by
      have : (i + 1) * P ≤ L.length * P := Nat.mul_le_mul_right _ hi
      rw [Nat.succ_mul] at this
      omega
    rw [hp.cell hfl hij, flatAtH hL hi hj]
  · injection e1 with e1 e3 e4
    injection e2 with e2 e5 e6
    injection e1 with e1
    injection e2 with e2
    subst e1 e2 e3 e5
    right
    simp only
    rcases Nat.lt_or_ge i j with hij | hij
    · left
      have : (i + 1) * P ≤ j * P := Nat.mul_le_mul_right _ hij
      rw [Nat.succ_mul] at this
      omega
    · right
      have : (j + 1) * P ≤ i * P := Nat.mul_le_mul_right _ (by omega)
      rw [Nat.succ_mul] at this
      omega
theorem wpList_make_strs_cap {Q : Exit → Act → World → Prop} {ops : Array Oper} {rest : List Oper} {o : Oper} {a : Act} {w0 w : World} {B : Nat} (hgd : o.guard = none) (l c : Operand)
    (ho : o.op = Op.makeSlice 145 l c) (kl kc : IntKind) (n : Nat) (N : Int) (hN : N = (n : Int)) (hl : a.eval l = .int kl 0) (hc : a.eval c = .int kc N) (hn : n ≤ 1048576)
    (hb : Below B w0 w) (hB : B ≤ w.heap.size)
    (h : ∀ w', StrsOwn w' B (.slice (some ⟨w.heap.size, 0, none⟩) 0 n) [] → Below B w0 w' → w.grownBy w' none → wpList Try.prog ops Q rest (a.put o.dst (.slice (some ⟨w.heap.size, 0, none⟩) 0 n)) w') :
    wpList Try.prog ops Q (o :: rest) a w := by
  obtain ⟨i0, hi, hz0, hz1, hz2⟩ := info_parts infoStr
  refine wpList_plain hgd fun K hK' => ?_
  obtain ⟨w', hrun, r1, r2⟩ := run_make_own (P := Try.prog) w B 145 9 i0 (.string ByteArray.empty) 1 Try.underlying145 hi hz0 hz1 kl kc n (by rw [hz2]; omega) (by unfold maxLen; omega) hB
  subst hN
  unfold Oper.wp
  simp [execOp, ho, hl, hc, hrun, Result.andThen]
  exact hK' _ _ (h w' r1 (hb.grown r2 hB fun k hk => by simp at hk) r2)
theorem wpList_make_bks {Q : Exit → Act → World → Prop} {ops : Array Oper} {rest : List Oper} {o : Oper} {a : Act} {w0 w : World} {B : Nat} (hgd : o.guard = none) (l c : Operand)
    (ho : o.op = Op.makeSlice 65 l c) (n : Nat) (N : Int) (hN : N = (n : Int)) (hl : a.eval l = .int .i64 N) (hc : a.eval c = .int .i64 N) (hn : n ≤ 1048576)
    (hb : Below B w0 w) (hB : B ≤ w.heap.size)
    (h : ∀ w', RB w' w.heap.size (fun _ => .slice none 0 0) (List.replicate n Blk.zero) → Below B w0 w' → w.grownBy w' none → wpList Try.prog ops Q rest (a.put o.dst (.slice (some ⟨w.heap.size, 0, none⟩) n n)) w') :
    wpList Try.prog ops Q (o :: rest) a w := by
  obtain ⟨i0, hi, hz0, hz1, hz2⟩ := info_parts infoBlkZ
  subst hN
  refine wpList_make_full w hgd l c _ ho B 147 i0 (.agg #[.int .i64 0, .int .i64 0, .bool false, .slice none 0 0]) 4 Try.underlying65 hi hz0 hz1 .i64 .i64 (n : Int) (n : Int) n hl hc rfl rfl (by rw [hz2]; omega) (by unfold maxLen; omega) hB ?_
  intro w' h1 h2
  have h3 := World.ownsRow.lt h1 w.heap.size rfl
  have b := BO.made h1 h3.2 h3.1
  exact h w' ⟨b.high, b.free, b.row⟩ (hb.grown h2 hB fun k hk => by simp at hk) h2
theorem wpList_append_strs_room {Q : Exit → Act → World → Prop} {ops : Array Oper} {rest : List Oper} {o : Oper} {a : Act} {wr : World} {B : Nat} (hgd : o.guard = none) (s x : Operand)
    (ho : o.op = .call { callee := .builtin .append, args := #[s, x], argTypes := #[145, 145] })
    (g n cap : Nat) (l : List ByteArray) (hln : l.length = n) (hs : a.eval s = .slice (some ⟨g, 0, none⟩) n cap) (hown : StrsOwn wr B (.slice (some ⟨g, 0, none⟩) n cap) l)
    (L : List ByteArray) (b off m c : Nat) (hm : L.length = m) (hx : a.eval x = .slice (some ⟨b, off, none⟩) m c) (hc : ∀ i, i < m → wr.cell? ⟨b, off + i, none⟩ = some (.string (L.getD i ByteArray.empty))) (hroom : n + m ≤ cap)
    (h : ∀ w', StrsOwn w' B (.slice (some ⟨g, 0, none⟩) (n + m) cap) (l ++ L) → wr.grownBy w' (some g) → wpList Try.prog ops Q rest (a.put o.dst (.slice (some ⟨g, 0, none⟩) (n + m) cap)) w') :
    wpList Try.prog ops Q (o :: rest) a wr := by
  obtain ⟨i0, hi, hz0, hz1, hz2⟩ := info_parts infoStr
  unfold StrsOwn at hown
  rw [hln] at hown
  refine wpList_append_own_spare _ hgd s x _ ho B 9 i0 1 Try.underlying145 hi hz1 g n cap (l.map Value.string) hs hown ⟨b, off, none⟩ m c (L.map Value.string) hx (by simp [hm]) ?_ ?_ hroom ?_
  · intro j u hj
    have hjl : j < L.length := by
      rcases Nat.lt_or_ge j L.length with hlt | hge
      · exact hlt
      · rw [List.getElem?_eq_none (by simpa using hge)] at hj; cases hj
    have := hc j (by omega)
    rw [List.getElem?_map, List.getElem?_eq_getElem hjl] at hj
    simp at hj
    subst hj
    rw [List.getD_eq_getElem?_getD, List.getElem?_eq_getElem hjl] at this
    have e : (⟨b, off, none⟩ : Addr).add j = ⟨b, off + j, none⟩ := by unfold Addr.add; split <;> simp_all
    rw [e]
    simpa using this
  · intro u hu
    simp at hu
    obtain ⟨s, _, rfl⟩ := hu
    rfl
  · intro w' h1 h2
    refine h w' ?_ h2
    unfold StrsOwn
    rw [List.length_append, hm, hln, List.map_append]
    exact h1
set_option maxHeartbeats 4000000 in
set_option maxRecDepth 100000 in
theorem clone_any (v : Value) (F : Fl) (w : World) (lo hi : Nat) (h : FlIn w lo hi v F) (hh : hi ≤ w.heap.size) (hok : FlOk F) :
    Calls Try.prog 155 #[v] w fun e w' => ∃ u, e = .returned u ∧ FlOwn w' w.heap.size w'.heap.size u F ∧ Below w.heap.size w w' := by
  obtain ⟨u, rfl, h⟩ := h
  have hn8 := hok.len
  have hpl := fun i hi => hok.plen (i := i) hi
  have hp16 := hok.1.p16
  obtain ⟨d, b, p, bs, fu, ke, off, op⟩ := F
  obtain ⟨A, n, cap, rfl, hlc, hcm, hlen, hA⟩ := h
  unfold flc
  simp only at hn8 hpl hp16 hlen hA
  rw [hlen] at hn8
  obtain ⟨P, rfl⟩ : ∃ P : Nat, p = (P : Int) := ⟨p.toNat, by omega⟩
  have hnm : (n : Int) ≤ 36 := by omega
  have hPm : (P : Int) ≤ 16 := by omega
  clear hok
  obtain ⟨g, o, rfl, hg1, hg2, hx⟩ := hA (by omega)
  have HX := Lib.hid hx
  have HN := Lib.hid hlen
  have HPL := Lib.hid hpl
  have hnp : (n : Int) * (P : Int) = ((n * P : Nat) : Int) := by simp
  have hnp2 : n * P ≤ 36 * 16 := Nat.mul_le_mul (by omega) (by omega)
  have hwr : IntKind.i64.wrap ((n : Int) * (P : Int)) = ((n * P : Nat) : Int) := by rw [hnp, IntKind.wrap_i64]; omega
  obtain ⟨r0, r1, b0⟩ := Rw.two_new w 67 67 #[.int .i64 d, .int .i64 b, .int .i64 P, .slice (some ⟨g, o, none⟩) n cap, .int .i64 fu, .int .i64 ke, .bool off, .int .i64 op]
    #[.int .i64 0, .int .i64 0, .int .i64 0, .slice none 0 0, .int .i64 0, .int .i64 0, .bool false, .int .i64 0]
  have R0 := Lib.hid r0
  have R1 := Lib.hid r1
  have B0 := Lib.hid b0
  clear r0 r1 b0 hx hlen hA hpl hnp
  go_enter Try.func155, Try.ntmps155
  obtain ⟨N, hN⟩ : ∃ N, N = n * P := ⟨_, rfl⟩
  rw [← hN] at hwr hnp2
  have HNP := Lib.hid hN
  clear hN
  go_wp2_with (first
    | (with_reducible show wpList _ _ _ (⟨some 11, _, _, _, _, _⟩ :: _) _ _
       go_must (refine wpList_make_bks (B := w.heap.size + 2) rfl _ _ rfl n _ rfl rfl rfl (by omega) (Below.refl _ _) (by simp) ?_)
       intro w1 rb1 hb1 gr1
       simp only [World.size_alloc] at rb1
       have s0 := R0.out.below hb1 (by omega)
       have S0 := Lib.hid s0
       have S1 := Lib.hid (R1.out.below hb1 (by omega))
       have BB1 := Lib.hid (B0.out.trans (hb1.mono (by omega)))
       obtain ⟨a0, a1, a2, a3, a4, a5, a6, a7⟩ := s0.eight
       have hlt1 := rb1.lt
       have RB1 := Lib.hid rb1
       clear rb1 s0 hb1 gr1)
    | (with_reducible show wpList _ _ _ (⟨some 19, _, _, _, _, _⟩ :: _) _ _
       go_must (refine wpList_make_strs_cap (B := w.heap.size + 2) rfl _ _ rfl .i64 .i64 N _ rfl rfl rfl (by omega) (Below.refl _ _) (by omega) ?_)
       intro w2 own2 hb2 gr2
       have t0 := S0.out.below hb2 (by omega)
       have T0 := Lib.hid t0
       have T1 := Lib.hid (S1.out.below hb2 (by omega))
       have BB2 := Lib.hid (BB1.out.trans (hb2.mono (by omega)))
       have RB2 := Lib.hid (RB1.out.same (gr2.block _ RB1.out.lt (by simp)) gr2.size)
       have OW := Lib.hid own2
       have hlt2 := (World.ownsRow.lt own2 w1.heap.size rfl).2
       clear a0 a1 a2 a3 a4 a5 a6 a7
       obtain ⟨a0, a1, a2, a3, a4, a5, a6, a7⟩ := t0.eight
       clear t0 own2 hb2 gr2))
  have hP0 : 0 < P := by omega
  have key0 : (fun _ : Nat => Value.slice none 0 0) = fun i => if i < 0 then Value.slice (some ⟨w1.heap.size, i * P, none⟩) P P else .slice none 0 0 := by
    funext i; rw [if_neg (by omega)]
  have RB3 := Lib.hid (show RB w2 (w.heap.size + 1 + 1) (fun i => if i < 0 then Value.slice (some ⟨w1.heap.size, i * P, none⟩) P P else .slice none 0 0) (bs.take 0 ++ List.replicate (n - 0) Blk.zero) by rw [← key0]; simpa using RB2.out)
  obtain ⟨ha, hha⟩ : ∃ ha, ha = w1.heap.size := ⟨_, rfl⟩
  rw [← hha] at RB3 OW hlt2
  have hha2 : w.heap.size + 3 ≤ ha := by omega
  rw [← hha]
  clear hha key0 RB1 RB2 S0 S1 BB1 a0 a1 a2 a3 a4 a5 a6 a7
  go_loopw [4, 23] (fun u i wr => ∃ (k q : Nat), k ≤ n ∧ i = .int .i64 k ∧ u = .slice (some ⟨ha, 0, none⟩) q N ∧ Hid (q = k * P) ∧ Hid (StrsOwn wr (w.heap.size + 2) (.slice (some ⟨ha, 0, none⟩) q N) (flatH (bs.take k))) ∧
      Hid (RB wr (w.heap.size + 1 + 1) (fun i => if i < k then Value.slice (some ⟨ha, i * P, none⟩) P P else .slice none 0 0) (bs.take k ++ List.replicate (n - k) Blk.zero)) ∧
      Hid (Rw wr w.heap.size 67 #[.int .i64 d, .int .i64 b, .int .i64 P, .slice (some ⟨g, o, none⟩) n cap, .int .i64 fu, .int .i64 ke, .bool off, .int .i64 op]) ∧
      Hid (Rw wr (w.heap.size + 1) 67 #[.int .i64 0, .int .i64 0, .int .i64 0, .slice none 0 0, .int .i64 0, .int .i64 0, .bool false, .int .i64 0]) ∧
      Hid (Below w.heap.size w wr) ∧ ha < wr.heap.size) (fun _ i _ => n - (intOf i).toNat)
  case atStart => exact ⟨0, 0, by omega, rfl, rfl, Lib.hid (by simp), Lib.hid (by simpa [flatH] using OW.out), RB3, T0, T1, BB2, hlt2⟩
  case round =>
    clear RB3 T0 T1 BB2 OW hlt2
    obtain ⟨k, q, hk, rfl, rfl, HQ, OW, RR, T0, T1, BB, hlt2⟩ := hrel
    obtain ⟨a0, a1, a2, a3, a4, a5, a6, a7⟩ := T0.out.eight
    have hne3' : ha ≠ w.heap.size + 1 + 1 := by omega
    by_cases hlt : k < n
    · have hki : (k : Int) < (n : Int) := by omega
      have hqP : q + P ≤ N := by
        rw [HQ.out, HNP.out, ← Nat.succ_mul]
        exact Nat.mul_le_mul_right _ hlt
      obtain ⟨pu, hat, hpu⟩ := HX.out k hlt
      have hs1 := sm BB.out lo hh
      obtain ⟨q0, q1, q2, q3⟩ := hat.same hs1 hg1 hg2
      obtain ⟨Ap, m, cp, rfl, hm1, hm2, hm3, hm4, hpc⟩ := hpu.same hs1
      have hmP : (bs.getD k Blk.zero).pg.length = P := by have := (HPL.out k (by have := HN.out; omega)).2.2; exact Int.ofNat.inj this
      have HY := Lib.hid (show bs.take (k + 1) = bs.take k ++ [bs.getD k Blk.zero] from by
        rw [List.take_succ_eq_append_getElem (by have := HN.out; omega), List.getD_eq_getElem?_getD, List.getElem?_eq_getElem (by have := HN.out; omega)]; rfl)
      have HS := Lib.hid (set_fill bs n k HN.out hlt)
      generalize bs.getD k Blk.zero = y at *
      obtain ⟨er, nx, bad, pg⟩ := y
      simp only at q0 q1 q2 hm3 hm4 hmP hpc
      obtain rfl : m = P := by omega
      obtain ⟨pb, po, rfl, hb1, hb2, hpx⟩ := hpc (by omega)
      have HPX := Lib.hid hpx
      have HM3 := Lib.hid hm3
      have HOL := Lib.hid (show (flatH (bs.take k)).length = q from by
        have := OW.out.shape
        rcases this with ⟨e, _⟩ | ⟨_, _, e, _⟩
        · cases e
        · injection e with _ e _; exact e.symm)
      have hsz := BB.out.size
      have hrl := RR.out.lt
      have RF := Lib.hid (fun c : Nat => RR.out.free c)
      have hrl2 : k < (bs.take k ++ List.replicate (n - k) Blk.zero).length := by rw [List.length_append, List.length_take, HN.out, List.length_replicate]; omega
      clear hat hpu hpx hs1 hpc hm3 hmP hm4
      have OWA := Lib.hid (show StrsOwn (wr.alloc (.cells #[.int .i64 er, .int .i64 nx, .bool bad, .slice (some ⟨pb, po, none⟩) m cp] 147)) (w.heap.size + 2) (.slice (some ⟨ha, 0, none⟩) q N) (flatH (bs.take k)) from World.ownsRow.alloc OW.out _)
      have CLA := Lib.hid (show ∀ i, i < m → (wr.alloc (.cells #[.int .i64 er, .int .i64 nx, .bool bad, .slice (some ⟨pb, po, none⟩) m cp] 147)).cell? ⟨pb, po + i, none⟩ = some (.string (pg.getD i ByteArray.empty)) from
        fun i hi => (World.cell?_alloc_lt _ _ _ (by show pb < _; omega)).trans (HPX.out i hi))
      have hne1 : ¬ wr.heap.size = ha := by omega
      have hne2 : ¬ wr.heap.size = w.heap.size + 1 + 1 := by omega
      have hne3 : ¬ ha = w.heap.size + 1 + 1 := by omega
      go_wp2_with (first
        | (with_reducible show wpList _ _ _ (⟨some 33, _, _, _, _, _⟩ :: _) _ _
           go_must (refine wpList_append_strs_room rfl _ _ rfl ha q N (flatH (bs.take k)) HOL.out rfl OWA.out pg pb po m cp HM3.out rfl CLA.out hqP ?_)
           intro w3 own3 gr3
           have keep3 : ∀ j, j ≤ wr.heap.size → j ≠ ha → w3.heap[j]? = (wr.alloc (.cells #[.int .i64 er, .int .i64 nx, .bool bad, .slice (some ⟨pb, po, none⟩) m cp] 147)).heap[j]? := fun j h1 h2 => gr3.block j (by simp; omega) (fun e => h2 (Option.some.inj e))
           have sz3 := gr3.size
           simp only [World.size_alloc] at sz3
           have rb : Rw w3 wr.heap.size _ _ := (keep3 _ (Nat.le_refl _) (by omega)).trans (Rw.new wr 147 #[.int .i64 er, .int .i64 nx, .bool bad, .slice (some ⟨pb, po, none⟩) m cp])
           obtain ⟨x0, x1, x2, x3⟩ := rb.four
           obtain ⟨fx0, fx1, fx2, fx3, _⟩ := rb.frees
           have rr3 := RR.out.same ((keep3 _ (by omega) (by omega)).trans (Below.heap_alloc wr _ _ hrl)) (by omega)
           obtain ⟨z0, z1, z2, z3⟩ := rr3.row k hrl2
           have fz0 := rr3.free (k * 4)
           have fz1 := rr3.free (k * 4 + 1)
           have fz2 := rr3.free (k * 4 + 2)
           have fz3 := rr3.free (k * 4 + 3)
           have RR3 := Lib.hid rr3
           have U0 := Lib.hid (show Rw w3 w.heap.size _ _ from (keep3 _ (by omega) (by omega)).trans (T0.out.alloc _))
           have U1 := Lib.hid (show Rw w3 (w.heap.size + 1) _ _ from (keep3 _ (by omega) (by omega)).trans (T1.out.alloc _))
           have BB3 := Lib.hid ((BB.out.alloc BB.out.size (.cells #[.int .i64 er, .int .i64 nx, .bool bad, .slice (some ⟨pb, po, none⟩) m cp] 147)).grown gr3 (by simp; omega) (fun j hj => by injection hj with hj; omega))
           have OW3 := Lib.hid own3
           clear keep3 rb rr3 own3 gr3))
      go_roundw
      case rel =>
        have h5 : ∀ j, j ≠ wr.heap.size → j ≠ w.heap.size + 1 + 1 → (((((w3.setCell ⟨wr.heap.size, 3, none⟩ (.slice (some ⟨ha, q, none⟩) m m)).setCell ⟨w.heap.size + 1 + 1, k * 4, none⟩ (.int .i64 er)).setCell ⟨w.heap.size + 1 + 1, k * 4 + 1, none⟩ (.int .i64 nx)).setCell ⟨w.heap.size + 1 + 1, k * 4 + 2, none⟩ (.bool bad)).setCell ⟨w.heap.size + 1 + 1, k * 4 + 3, none⟩ (.slice (some ⟨ha, q, none⟩) m m)).heap[j]? = w3.heap[j]? := fun j e1 e2 => by
          rw [Below.heap_setCell _ _ _ _ e2, Below.heap_setCell _ _ _ _ e2, Below.heap_setCell _ _ _ _ e2, Below.heap_setCell _ _ _ _ e2, Below.heap_setCell _ _ _ _ e1]
        have ow4 := OW3.out.blk (h5 ha (by omega) hne3)
        have hfp : flatH (bs.take k) ++ pg = flatH (bs.take (k + 1)) := by rw [HY.out, flatH_push]
        rw [hfp] at ow4
        have rr4 := (RR3.out.same (w' := w3.setCell ⟨wr.heap.size, 3, none⟩ (.slice (some ⟨ha, q, none⟩) m m)) (Below.heap_setCell _ _ _ _ (by show w.heap.size + 1 + 1 ≠ wr.heap.size; omega)) (by simp)).fill hrl2 ⟨er, nx, bad, pg⟩ (.slice (some ⟨ha, q, none⟩) m m)
        rw [HS.out] at rr4
        have rr5 := rr4.congr (pv' := fun i => if i < k + 1 then Value.slice (some ⟨ha, i * m, none⟩) m m else .slice none 0 0) (fun i _ => by
          by_cases e : i = k
          · rw [if_pos e, if_pos (by omega), e, HQ.out]
          · rw [if_neg e]
            by_cases e2 : i < k
            · rw [if_pos e2, if_pos (by omega)]
            · rw [if_neg e2, if_neg (by omega)])
        exact ⟨k + 1, q + m, by omega, by go_num, rfl, Lib.hid (by rw [HQ.out, Nat.succ_mul]), Lib.hid ow4, Lib.hid rr5, Lib.hid ((h5 _ (by omega) (by omega)).trans U0.out), Lib.hid ((h5 _ (by omega) (by omega)).trans U1.out),
          Lib.hid (bset (bset (bset (bset (bset BB3.out (by omega) _) (by omega) _) (by omega) _) (by omega) _) (by omega) _), by simp; omega⟩
      case measure => simp [intOf]; omega
    · obtain rfl : k = n := by omega
      obtain ⟨z0, z1, z2, z3, z4, z5, z6, z7⟩ := T1.out.eight
      obtain ⟨fz0, fz1, fz2, fz3, fz4, fz5, fz6, fz7⟩ := T1.out.frees
      obtain ⟨fa0, fa1, fa2, fa3, fa4, fa5, fa6, fa7⟩ := T0.out.frees
      have htk : bs.take k = bs := List.take_of_length_le (by have := HN.out; omega)
      have rr := RR.out
      rw [Nat.sub_self, List.replicate_zero, List.append_nil, htk] at rr
      have ow := OW.out
      rw [htk, HQ.out] at ow
      have hLP : ∀ x ∈ bs, x.pg.length = P := fun x hx => by
        obtain ⟨i, hi, rfl⟩ := List.getElem_of_mem hx
        have := (HPL.out i hi).2.2
        have e : (Fl.blk { d := d, b := b, p := (P : Int), bs := bs, fu := fu, ke := ke, off := off, op := op } i) = bs[i] := by
          show bs.getD i Blk.zero = _
          rw [List.getD_eq_getElem?_getD, List.getElem?_eq_getElem hi]; rfl
        rw [e] at this
        exact Int.ofNat.inj this
      have rr2 := rr.congr (pv' := fun i => Value.slice (some ⟨ha, i * P, none⟩) P P) (fun i hi => by rw [if_pos (by have := HN.out; omega)])
      have hkl := HN.out
      rw [← hkl] at ow
      have bo := BO.split rr2 ow hLP (by omega) hne3' (by omega) (fun i hi j hj => by
        obtain ⟨_, _, hp⟩ := HX.out i (by omega)
        obtain ⟨_, _, _, _, _, _, h3, h4, _⟩ := hp
        exact h4 j (by omega))
      have BOH := Lib.hid bo
      clear rr ow rr2 bo htk hkl
      go_wp2
      refine bodyPost_ret (results_cell_row Try.results155 _ _ _ _ #[.int .i64 d, .int .i64 b, .int .i64 P, .slice (some ⟨w.heap.size + 1 + 1, 0, none⟩) k k, .int .i64 fu, .int .i64 ke, .bool off, .int .i64 op] _ _ rfl
        (((((((((T1.out.farA (by omega) _).set_ 0 _).set_ 1 _).set_ 2 _).set_ 3 _).set_ 4 _).set_ 5 _).set_ 6 _).set_ 7 _) Try.underlying67 rfl infoFl8) rfl ?_
      refine ⟨_, rfl, ⟨_, rfl, _, _, _, rfl, Nat.le_refl _, by omega, HN.out, fun _ => ⟨_, _, rfl, (BOH.out.same ?_).wide (by omega) (by simp)⟩⟩, ?_⟩
      · repeat refine sset ?_ (.inl (by omega)) _
        exact Same.refl _ _ _
      · repeat refine bset ?_ (by omega) _
        exact BB.out
end Go.Proofs.Ytainlanblpccjaa
