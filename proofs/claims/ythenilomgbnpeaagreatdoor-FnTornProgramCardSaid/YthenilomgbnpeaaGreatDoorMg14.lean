/- The proof's own lemmas, part 15: FlK FlR. -/
import Derived.Test.YthenilomgbnpeaaGreatDoorProg
import Derived.Test.YthenilomgbnpeaaGreatDoorMg13
import Derived.Test.YthenilomgbnpeaaGreatDoorMg0
import Derived.Deep.DeepMust
import Derived.Deep.RegionHeld3
/- The laws' helpers markFlash and heldFlash: their contracts. -/
namespace Go.Proofs.YthenilomgbnpeaaGreatDoor
open Go.RowKit
set_option linter.unusedVariables false
theorem strOfNums_join (a b : List Int) : strOfNums a ++ strOfNums b = strOfNums (a ++ b) := by
  apply ByteArray.ext
  simp [strOfNums, ByteArray.data_append]
theorem wpList_one_byte {Q : Exit → Act → World → Prop} {ops : Array Oper} {rest : List Oper} {o : Oper} {a : Act} {w : World} (hgd : o.guard = none) (x : Operand)
    (ho : o.op = .convert 22 9 x) (n : Nat) (b : Int) (s : ByteArray) (hx : a.eval x = .slice (some ⟨w.heap.size, 0, none⟩) 1 n) (hs : s = strOfNums [b])
    (h : wpList Tryz.prog ops Q rest (a.put o.dst (.string s)) (w.alloc (.cells #[.int .u8 b] 5))) : wpList Tryz.prog ops Q (o :: rest) a (w.alloc (.cells #[.int .u8 b] 5)) := by
  refine wpList_plain hgd fun K hK' => ?_
  have hrun := arr_str (Arr.new w 5 .u8 [b]) 1 n (by simp)
  unfold Oper.wp
  simp only [List.map_cons, List.map_nil, List.take_succ_cons, List.take_zero] at hrun
  simp only [execOp, ho, hx, hrun, Sem.run_bind, Sem.run_pure, Result.andThen]
  rw [← hs]
  exact hK' _ _ h
/-- Outside the blocks from lo up to hi nothing turned (new blocks may lie behind). -/
def Keep (lo hi : Nat) (w w' : World) : Prop := Below lo w w' ∧ Same hi w.heap.size w w'
section
variable {w w' w'' : World} {lo hi : Nat}
theorem Keep.refl (lo hi : Nat) (w : World) : Keep lo hi w w := ⟨Below.refl _ _, Same.refl _ _ _⟩
theorem Keep.trans (h : Keep lo hi w w') (k : Keep lo hi w' w'') : Keep lo hi w w'' := ⟨h.1.trans k.1, h.2.trans (k.2.mono (Nat.le_refl _) h.1.size)⟩
theorem Keep.set_ (h : Keep lo hi w w') {g k : Nat} (h1 : lo ≤ g) (h2 : g < hi) (u : Value) : Keep lo hi w (w'.setCell ⟨g, k, none⟩ u) := ⟨bset h.1 h1 u, sset h.2 (.inl h2) u⟩
theorem Keep.call (h : Keep lo hi w w') (hb : Below w'.heap.size w' w'') (hl : lo ≤ w.heap.size) : Keep lo hi w w'' := ⟨h.1.trans (hb.mono (by have := h.1.size; omega)), h.2.trans (sm hb hi h.1.size)⟩
theorem Keep.size (h : Keep lo hi w w') : w.heap.size ≤ w'.heap.size := h.1.size
theorem Keep.high (h : Keep lo hi w w') {hi' : Nat} (a : hi' ≤ w.heap.size) : Same hi hi' w w' := h.2.mono (Nat.le_refl _) a
theorem Keep.low (h : Keep lo hi w w') (b : Nat) : Same b lo w w' := sm h.1 b (Nat.le_refl _)
end
theorem markT_size (k : Nat) (h : k ≤ 10000000) : (markT k).size ≤ 9223372036854775807 := by
  have hd : ∀ n k, k ≤ n → (digs k).length ≤ k := by
    intro n
    induction n with
    | zero => intro k hk; obtain rfl : k = 0 := by omega
              rw [digs_zero]; simp
    | succ n ih =>
      intro k hk
      rcases Nat.eq_zero_or_pos k with h0 | h0
      · subst h0; rw [digs_zero]; simp
      · rw [digs_pos h0, List.length_append]
        have := ih (k / 10) (by omega)
        simp only [List.length_cons, List.length_nil]
        omega
  unfold markT
  rw [strOfNums_size, List.length_cons]
  have := hd k k (Nat.le_refl _)
  omega
/-- Texts, the first of them marked. -/
def mks (m : Nat) (l : List ByteArray) (i : Nat) : List ByteArray := (List.range i).map (fun t => markT (m + t)) ++ l.drop i
theorem mks_length (m : Nat) (l : List ByteArray) (i : Nat) (h : i ≤ l.length) : (mks m l i).length = l.length := by simp [mks]; omega
theorem mks_set (m : Nat) (l : List ByteArray) (i : Nat) (h : i < l.length) : (mks m l i).set i (markT (m + i)) = mks m l (i + 1) := by
  unfold mks
  rw [List.set_append_right _ _ (by simp), List.length_map, List.length_range, Nat.sub_self, List.drop_eq_getElem_cons h, List.set_cons_zero, List.range_succ, List.map_append, List.append_assoc]; rfl
theorem mks_all (m : Nat) (l : List ByteArray) : mks m l l.length = (List.range l.length).map fun t => markT (m + t) := by simp [mks]
def Blk.pages (x : Blk) (l : List ByteArray) : Blk := { x with pg := l }
theorem set_set_pages (L : List Blk) (k : Nat) (l l' : List ByteArray) (hk : k < L.length) : (L.set k ((L.getD k Blk.zero).pages l)).set k (((L.set k ((L.getD k Blk.zero).pages l)).getD k Blk.zero).pages l') = L.set k ((L.getD k Blk.zero).pages l') := by
  rw [List.set_set, getD_set_eq _ _ _ _ hk]; rfl
def MkPost (B lo hi g : Nat) (pv : Nat → Value) (L : List Blk) (n : Nat) (w : World) (e : Ending) (w' : World) : Prop := e = .returned (.int .i64 n) ∧ BO w' lo hi g pv L ∧ Keep B hi w w'
section
variable {w : World} {lo hi g k c : Nat} {pv : Nat → Value} {L : List Blk} {a : Blk}
theorem BO.self (h : BO w lo hi g pv L) (hk : k < L.length) : BO w lo hi g pv (L.set k (L.getD k Blk.zero)) := by
  rw [List.getD_eq_getElem?_getD, List.getElem?_eq_getElem hk]
  simpa using h
theorem BO.storeS (h : BO w lo hi g pv (L.set k a)) (hk : k < L.length) (u : Value) (hc : (c = 0 ∧ ∃ n, u = .int .i64 n) ∨ (c = 1 ∧ ∃ n, u = .int .i64 n) ∨ (c = 2 ∧ ∃ b, u = .bool b)) :
    BO (w.setCell ⟨g, k * 4 + c, none⟩ u) lo hi g pv (L.set k (a.put c u)) := by
  have := h.store (k := k) (by simpa using hk) u hc
  rwa [List.set_set, getD_set_eq _ _ _ _ hk] at this
theorem BO.cells (h : BO w lo hi g pv (L.set k a)) (hk : k < L.length) : BkAt w g (k * 4) a (pv k) := by
  have := h.row k (by simpa using hk)
  rwa [getD_set_eq _ _ _ _ hk] at this
end
theorem marks_set (L : List Blk) (m i : Nat) (hi : i < L.length) : (markLs m (L.take i) ++ L.drop i).getD i Blk.zero = L.getD i Blk.zero ∧
    (markLs m (L.take i) ++ L.drop i).set i (markB (m + markN (L.take i)) (L.getD i Blk.zero)) = markLs m (L.take (i + 1)) ++ L.drop (i + 1) := by
  have hl : (markLs m (L.take i)).length = i := by rw [markLs_length]; simp; omega
  constructor
  · rw [List.getD_eq_getElem?_getD, List.getElem?_append_right (by omega), hl, Nat.sub_self, List.getElem?_drop, List.getD_eq_getElem?_getD, Nat.add_zero]
  · rw [List.set_append_right _ _ (by omega), hl, Nat.sub_self, List.drop_eq_getElem_cons hi, List.set_cons_zero, markLs_take m hi, List.append_assoc]; rfl
theorem beq3 (q : Nat) : ((1 + (q : Int) + 1 + 1) % 3 == 0) = decide ((1 + q + 2) % 3 = 0) := by
  rw [Bool.eq_iff_iff]; simp; omega
def MbPost (lo hi : Nat) (v : Value) (L : List Blk) (m : Nat) (w : World) (e : Ending) (w' : World) : Prop := e = .returned (.int .i64 (m + markN L : Nat)) ∧ BksOwn w' lo hi v (markLs m L) ∧ Keep lo hi w w'
end Go.Proofs.YthenilomgbnpeaaGreatDoor
/- A block programmed in place, by the program and by the model: the contracts. -/
namespace Go.Proofs.YthenilomgbnpeaaGreatDoor
open Go.RowKit
set_option linter.unusedVariables false
section
variable {w : World} {lo hi g k : Nat} {pv : Nat → Value} {L : List Blk} {a : Blk}
theorem BO.storePgS (h : BO w lo hi g pv (L.set k a)) (hk : k < L.length) {b off n cap t : Nat} (hv : pv k = .slice (some ⟨b, off, none⟩) n cap) (ht : t < n) (s : ByteArray) (hs : s.size ≤ 9223372036854775807) :
    BO (w.setCell ⟨b, off + t, none⟩ (.string s)) lo hi g pv (L.set k (a.pages (a.pg.set t s))) := by
  have := h.storePg (k := k) (n := t) (by simpa using hk) ht hv s hs
  rwa [List.set_set, getD_set_eq _ _ _ _ hk] at this
theorem BO.pageS (h : BO w lo hi g pv (L.set k a)) (hk : k < L.length) {b off n cap t : Nat} (hv : pv k = .slice (some ⟨b, off, none⟩) n cap) (ht : t < n) :
    w.cell? ⟨b, off + t, none⟩ = some (.string (a.pg.getD t ByteArray.empty)) ∧ w.frozen? ⟨b, off + t, none⟩ = false ∧ lo ≤ b ∧ b < hi ∧ b ≠ g := by
  have h1 := h.page (k := k) (by simpa using hk) hv ht
  rw [getD_set_eq _ _ _ _ hk] at h1
  refine ⟨h1.1, h1.2.1, h1.2.2.1, h1.2.2.2.1, ?_⟩
  obtain ⟨A, l', c', e, _, _, _, _, hx⟩ := h.pgs k (by simpa using hk)
  rw [hv] at e
  injection e with e1 e2 e3
  subst e2
  obtain ⟨b', o', e4, _, _, h6, _⟩ := hx (by omega)
  rw [e4] at e1
  injection e1 with e1
  injection e1 with e1
  omega
end
/-- What is written of a page. -/
def Blk.takes (x : Blk) (raw : ByteArray) (ke : Int) : Blk := if ke = 0 then x else x.torn raw ke
theorem Blk.torn_whole {x : Blk} {raw : ByteArray} (h : raw.size = 91) : x.torn raw 91 = x.prog raw := by
  unfold Blk.torn Blk.prog
  rw [if_neg (by omega)]
  show { x with pg := x.pg.set x.nx.toNat (tornB raw 91), nx := x.nx + 1 } = _
  rw [tornB_all h]
/-- The pages of a block: the slice is there. -/
theorem BO.somePg {w : World} {lo hi g k : Nat} {pv : Nat → Value} {L : List Blk} (h : BO w lo hi g pv L) (hk : k < L.length) (h0 : 0 < (L.getD k Blk.zero).pg.length) :
    ∃ b off cap, pv k = .slice (some ⟨b, off, none⟩) (L.getD k Blk.zero).pg.length cap ∧ (L.getD k Blk.zero).pg.length ≤ cap ∧ cap ≤ 9223372036854775807 := by
  obtain ⟨A, n, cap, e, h1, h2, h3, _, hx⟩ := h.pgs k hk
  obtain ⟨b, off, rfl, _⟩ := hx (by omega)
  exact ⟨b, off, cap, by rw [e, h3], by omega, h2⟩
def UnitPost (P : World → Prop) (e : Ending) (w' : World) : Prop := e = .returned (.tuple #[]) ∧ P w'
set_option maxRecDepth 100000 in
theorem blkProg_any (w : World) (lo hi g : Nat) (pv : Nat → Value) (L : List Blk) (k : Nat) (raw : ByteArray) (ke : Int) (h : BO w lo hi g pv L) (hk : k < L.length) (hh : hi ≤ w.heap.size)
    (h0 : 0 ≤ (L.getD k Blk.zero).nx) (h1 : (L.getD k Blk.zero).nx < ((L.getD k Blk.zero).pg.length : Int)) (h2 : (L.getD k Blk.zero).pg.length ≤ 16) (hr : raw.size = 91) (hke : 0 ≤ ke ∧ ke ≤ 91) :
    Calls Tryz.prog 58 #[.pointer (some ⟨g, k * 4, none⟩), .string raw, .int .i64 ke] w
      (UnitPost fun w' => BO w' lo hi g pv (L.set k ((L.getD k Blk.zero).takes raw ke)) ∧ Keep lo hi w w') := by
  have o0 := h.self hk
  obtain ⟨b, off, cap, hv, hv1, hv2⟩ := h.somePg hk (by omega)
  generalize L.getD k Blk.zero = y at *
  obtain ⟨q0, q1, q2, q3⟩ := o0.cells hk
  rw [hv] at q3
  have f1 := o0.free (k * 4 + 1)
  have O0 := Lib.hid o0
  have HK := Lib.hid hk
  obtain ⟨er, nx, bad, pg⟩ := y
  simp only at h0 h1 h2 q0 q1 q2 q3 hv hv1
  obtain ⟨n, hn⟩ : ∃ n, n = pg.length := ⟨_, rfl⟩
  obtain ⟨p, rfl⟩ := Int.eq_ofNat_of_zero_le h0
  have HN := Lib.hid hn
  rw [← hn] at h1 h2 q3 hv hv1
  have HV := Lib.hid hv
  have hlow := h.low
  have hhigh := h.high
  clear h o0 hn hk
  by_cases hz : ke = 0
  · subst hz
    go_enter Tryz.func58, Tryz.ntmps58
    go_wp2
    go_end0
    exact ⟨rfl, by unfold Blk.takes; rw [if_pos rfl]; exact O0.out, Keep.refl _ _ _⟩
  · have hz' : (ke == 0) = false := by simp [hz]
    have hT : ∀ W : World, Calls Tryz.prog 75 #[.string raw, .int .i64 ke] W (PairPost (tornB raw ke.toNat) 0 W) := fun W =>
      implTorn_any raw ke _ 0 W (by omega) (.done hr ke.toNat (by omega) (by omega))
    have HT := Lib.hid hT
    have HTS := Lib.hid (tornB_size (k := ke.toNat) hr (by omega))
    generalize htt : tornB raw ke.toNat = t at *
    have HTT := Lib.hid htt
    clear hT htt
    have hpn : p < n := by omega
    by_cases hodd : ke < 91 ∧ p % 2 = 1
    · obtain ⟨hk91, hp2⟩ := hodd
      obtain ⟨m, hm⟩ : ∃ m, m = p - 1 := ⟨_, rfl⟩
      obtain ⟨c1, d1, e1, e2, e3⟩ := O0.out.pageS HK.out HV.out (t := m) (by omega)
      have hd := Lib.hid (fun (W : World) => implDestroyed_any W)
      go_enter Tryz.func58, Tryz.ntmps58
      go_wp2
      have i2 : (m : Int) < (n : Int) := by omega
      have i4 : IntKind.i64.wrap ((p : Int) - 1) = (m : Int) := by rw [IntWalk.i64_in _ (by omega)]; omega
      have HM := Lib.hid hm
      clear hm
      go_region_held3 (fun W => W.cell? ⟨g, k * 4 + 3, none⟩ = some (.slice (some ⟨b, off, none⟩) n cap))
        (first
          | exact q3
          | exact (hb1.cell (p := ⟨g, k * 4 + 3, none⟩) (by show g < _; omega)).trans q3
          | exact (World.cell?_setCell_other _ _ _ _ (addr_ne fun e => absurd e e3)).trans ((hb1.cell (p := ⟨g, k * 4 + 3, none⟩) (by show g < _; omega)).trans q3))
        (first
          | (go_at_call 74
             refine (hd.out _).mono ?_
             rintro e w1 ⟨rfl, hb0⟩
             have hb1 : Below w.heap.size w w1 := (Below.refl w.heap.size w).drew.trans hb0
             have c1' := (hb1.cell (p := ⟨b, off + m, none⟩) (by show b < _; omega)).trans c1
             have d1' := (hb1.frozen (p := ⟨b, off + m, none⟩) (by show b < _; omega)).trans d1))
      have O1 := Lib.hid ((O0.out.same (sm hb1 lo hh)).storePgS HK.out HV.out (t := m) (by omega) (fillB 0 91) (by rw [fillB_size]; omega))
      have K1 := Lib.hid (((Keep.refl lo hi w).call hb1 (by omega)).set_ (g := b) (k := off + m) e1 e2 (.string (fillB 0 91)))
      generalize w1.setCell ⟨b, off + m, none⟩ (.string (fillB 0 91)) = wx at *
      clear q0 q1 q2 q3 f1 c1 d1 c1' d1' i2 i4
      obtain ⟨r0, r1, r2, r3⟩ := O1.out.cells HK.out
      rw [HV.out] at r3
      simp only [Blk.pages] at r1
      have g1 := O1.out.free (k * 4 + 1)
      obtain ⟨c2, d2, a1, a2, a3⟩ := O1.out.pageS HK.out HV.out (t := p) hpn
      have hsx := K1.out.size
      go_wp2
      go_region_held3 (fun W => W.cell? ⟨g, k * 4 + 3, none⟩ = some (.slice (some ⟨b, off, none⟩) n cap))
        (first
          | exact r3
          | exact (hb2.cell (p := ⟨g, k * 4 + 3, none⟩) (by show g < _; omega)).trans r3
          | exact (World.cell?_setCell_other _ _ _ _ (addr_ne fun e => absurd e a3)).trans ((hb2.cell (p := ⟨g, k * 4 + 3, none⟩) (by show g < _; omega)).trans r3))
        (first
          | (go_at_call 75
             refine (HT.out _).mono ?_
             rintro e w2 ⟨rfl, hb0⟩
             have hb2 : Below wx.heap.size wx w2 := (Below.refl wx.heap.size wx).drew.trans hb0
             have c2' := (hb2.cell (p := ⟨b, off + p, none⟩) (by show b < _; omega)).trans c2
             have d2' := (hb2.frozen (p := ⟨b, off + p, none⟩) (by show b < _; omega)).trans d2))
      have O2 := Lib.hid ((O1.out.same (sm hb2 lo (by omega))).storePgS HK.out HV.out (t := p) hpn t (by have := HTS.out; omega))
      have K2 := Lib.hid ((K1.out.call hb2 (by omega)).set_ (g := b) (k := off + p) a1 a2 (.string t))
      generalize w2.setCell ⟨b, off + p, none⟩ (.string t) = wy at *
      obtain ⟨u0, u1, u2, u3⟩ := O2.out.cells HK.out
      simp only [Blk.pages] at u1
      have v1 := O2.out.free (k * 4 + 1)
      clear r0 r1 r2 r3 g1 c2 d2 c2' d2' u0 u2 u3
      go_wp2
      go_end0
      have O3 := O2.out.storeS (c := 1) HK.out (.int .i64 ((p : Int) + 1)) (.inr (.inl ⟨rfl, _, rfl⟩))
      refine ⟨rfl, ?_, K2.out.set_ (g := g) (k := k * 4 + 1) hlow hhigh (.int .i64 ((p : Int) + 1))⟩
      have e9 : Blk.takes ⟨er, (p : Int), bad, pg⟩ raw ke = (((Blk.mk er (p : Int) bad pg).pages (pg.set m (fillB 0 91))).pages ((pg.set m (fillB 0 91)).set p t)).put 1 (.int .i64 ((p : Int) + 1)) := by
        unfold Blk.takes Blk.torn
        rw [if_neg hz]
        rw [if_pos ⟨by simp only [Int.toNat_natCast]; exact hp2, hk91⟩]
        simp only [Int.toNat_natCast]
        rw [HTT.out, ← HM.out]; rfl
      rw [e9]
      exact O3
    · have hc2 : decide (ke < 91) = false ∨ ((p : Int) % 2 == 1) = false := by
        by_cases a : ke < 91
        · right
          have : ¬ p % 2 = 1 := fun b => hodd ⟨a, b⟩
          simp; omega
        · left; simp; omega
      have O1 := Lib.hid O0.out
      have K1 := Lib.hid (Keep.refl lo hi w)
      clear O0 q0 q1 q2 q3 f1
      by_cases hq : ke < 91
      · have hq2 : ((p : Int) % 2 == 1) = false := by
          rcases hc2 with hc2 | hc2
          · simp at hc2; omega
          · exact hc2
        go_enter Tryz.func58, Tryz.ntmps58
        obtain ⟨r0, r1, r2, r3⟩ := O1.out.cells HK.out
        rw [HV.out] at r3
        have g1 := O1.out.free (k * 4 + 1)
        obtain ⟨c2, d2, a1, a2, a3⟩ := O1.out.pageS HK.out HV.out (t := p) hpn
        have hsx := K1.out.size
        go_wp2
        go_region_held3 (fun W => W.cell? ⟨g, k * 4 + 3, none⟩ = some (.slice (some ⟨b, off, none⟩) n cap))
          (first
            | exact r3
            | exact (hb2.cell (p := ⟨g, k * 4 + 3, none⟩) (by show g < _; omega)).trans r3
            | exact (World.cell?_setCell_other _ _ _ _ (addr_ne fun e => absurd e a3)).trans ((hb2.cell (p := ⟨g, k * 4 + 3, none⟩) (by show g < _; omega)).trans r3))
          (first
            | (go_at_call 75
               refine (HT.out _).mono ?_
               rintro e w2 ⟨rfl, hb0⟩
               have hb2 : Below w.heap.size w w2 := (Below.refl w.heap.size w).drew.trans hb0
               have c2' := (hb2.cell (p := ⟨b, off + p, none⟩) (by show b < _; omega)).trans c2
               have d2' := (hb2.frozen (p := ⟨b, off + p, none⟩) (by show b < _; omega)).trans d2))
        have O2 := Lib.hid ((O1.out.same (sm hb2 lo (by omega))).storePgS HK.out HV.out (t := p) hpn t (by have := HTS.out; omega))
        have K2 := Lib.hid ((K1.out.call hb2 (by omega)).set_ (g := b) (k := off + p) a1 a2 (.string t))
        generalize w2.setCell ⟨b, off + p, none⟩ (.string t) = wy at *
        obtain ⟨u0, u1, u2, u3⟩ := O2.out.cells HK.out
        simp only [Blk.pages] at u1
        have v1 := O2.out.free (k * 4 + 1)
        clear r0 r1 r2 r3 g1 c2 d2 c2' d2' u0 u2 u3
        go_wp2
        go_end0
        have O3 := O2.out.storeS (c := 1) HK.out (.int .i64 ((p : Int) + 1)) (.inr (.inl ⟨rfl, _, rfl⟩))
        refine ⟨rfl, ?_, K2.out.set_ (g := g) (k := k * 4 + 1) hlow hhigh (.int .i64 ((p : Int) + 1))⟩
        have e9 : Blk.takes ⟨er, (p : Int), bad, pg⟩ raw ke = ((Blk.mk er (p : Int) bad pg).pages (pg.set p t)).put 1 (.int .i64 ((p : Int) + 1)) := by
          unfold Blk.takes Blk.torn
          rw [if_neg hz]
          rw [if_neg (fun hc => hodd ⟨hc.2, by have := hc.1; simp only [Int.toNat_natCast] at this; exact this⟩)]
          simp only [Int.toNat_natCast]
          rw [HTT.out]; rfl
        rw [e9]
        exact O3
      · go_enter Tryz.func58, Tryz.ntmps58
        obtain ⟨r0, r1, r2, r3⟩ := O1.out.cells HK.out
        rw [HV.out] at r3
        have g1 := O1.out.free (k * 4 + 1)
        obtain ⟨c2, d2, a1, a2, a3⟩ := O1.out.pageS HK.out HV.out (t := p) hpn
        have hsx := K1.out.size
        go_wp2
        go_region_held3 (fun W => W.cell? ⟨g, k * 4 + 3, none⟩ = some (.slice (some ⟨b, off, none⟩) n cap))
          (first
            | exact r3
            | exact (hb2.cell (p := ⟨g, k * 4 + 3, none⟩) (by show g < _; omega)).trans r3
            | exact (World.cell?_setCell_other _ _ _ _ (addr_ne fun e => absurd e a3)).trans ((hb2.cell (p := ⟨g, k * 4 + 3, none⟩) (by show g < _; omega)).trans r3))
          (first
            | (go_at_call 75
               refine (HT.out _).mono ?_
               rintro e w2 ⟨rfl, hb0⟩
               have hb2 : Below w.heap.size w w2 := (Below.refl w.heap.size w).drew.trans hb0
               have c2' := (hb2.cell (p := ⟨b, off + p, none⟩) (by show b < _; omega)).trans c2
               have d2' := (hb2.frozen (p := ⟨b, off + p, none⟩) (by show b < _; omega)).trans d2))
        have O2 := Lib.hid ((O1.out.same (sm hb2 lo (by omega))).storePgS HK.out HV.out (t := p) hpn t (by have := HTS.out; omega))
        have K2 := Lib.hid ((K1.out.call hb2 (by omega)).set_ (g := b) (k := off + p) a1 a2 (.string t))
        generalize w2.setCell ⟨b, off + p, none⟩ (.string t) = wy at *
        obtain ⟨u0, u1, u2, u3⟩ := O2.out.cells HK.out
        simp only [Blk.pages] at u1
        have v1 := O2.out.free (k * 4 + 1)
        clear r0 r1 r2 r3 g1 c2 d2 c2' d2' u0 u2 u3
        go_wp2
        go_end0
        have O3 := O2.out.storeS (c := 1) HK.out (.int .i64 ((p : Int) + 1)) (.inr (.inl ⟨rfl, _, rfl⟩))
        refine ⟨rfl, ?_, K2.out.set_ (g := g) (k := k * 4 + 1) hlow hhigh (.int .i64 ((p : Int) + 1))⟩
        have e9 : Blk.takes ⟨er, (p : Int), bad, pg⟩ raw ke = ((Blk.mk er (p : Int) bad pg).pages (pg.set p t)).put 1 (.int .i64 ((p : Int) + 1)) := by
          unfold Blk.takes Blk.torn
          rw [if_neg hz]
          rw [if_neg (fun hc => hodd ⟨hc.2, by have := hc.1; simp only [Int.toNat_natCast] at this; exact this⟩)]
          simp only [Int.toNat_natCast]
          rw [HTT.out]; rfl
        rw [e9]
        exact O3
end Go.Proofs.YthenilomgbnpeaaGreatDoor
