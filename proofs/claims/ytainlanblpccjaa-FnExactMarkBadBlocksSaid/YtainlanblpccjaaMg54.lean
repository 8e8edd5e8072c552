/- The proof's own lemmas, part 55: FlK. -/
import Derived.Test.YtainlanblpccjaaProg
import Derived.Test.YtainlanblpccjaaMg5
import Derived.Test.YtainlanblpccjaaMg50
import Derived.Deep.DeepMust
import Derived.Deep.RegionHeld3
/- The laws' helpers markFlash and heldFlash: their contracts. -/
namespace Go.Proofs.Ytainlanblpccjaa
open Go.RowKit
set_option linter.unusedVariables false
theorem strOfNums_join (a b : List Int) : strOfNums a ++ strOfNums b = strOfNums (a ++ b) := by
  apply ByteArray.ext
  simp [strOfNums, ByteArray.data_append]
theorem wpList_one_byte {Q : Exit → Act → World → Prop} {ops : Array Oper} {rest : List Oper} {o : Oper} {a : Act} {w : World} (hgd : o.guard = none) (x : Operand)
    (ho : o.op = .convert 38 9 x) (n : Nat) (b : Int) (s : ByteArray) (hx : a.eval x = .slice (some ⟨w.heap.size, 0, none⟩) 1 n) (hs : s = strOfNums [b])
    (h : wpList Try.prog ops Q rest (a.put o.dst (.string s)) (w.alloc (.cells #[.int .u8 b] 5))) : wpList Try.prog ops Q (o :: rest) a (w.alloc (.cells #[.int .u8 b] 5)) := by
  refine wpList_plain hgd fun K hK' => ?_
  have hrun := arr_str (Arr.new w 5 .u8 [b]) 1 n (by simp)
  unfold Oper.wp
  simp only [List.map_cons, List.map_nil, List.take_succ_cons, List.take_zero] at hrun
  simp only [execOp, ho, hx, hrun, Sem.run_bind, Sem.run_pure, Result.andThen]
  rw [← hs]
  exact hK' _ _ h
set_option maxRecDepth 100000 in
theorem markText_any (k : Nat) (w : World) (h0 : 0 < k) (h1 : k ≤ 10000000) :
    Calls Try.prog 222 #[.int .i64 k] w fun e w' => e = .returned (.string (markT k)) ∧ Below w.heap.size w w' := by
  have hk : (k : Int) ≤ 10000000 := by omega
  have hk0 : ¬ (k : Int) ≤ 0 := by omega
  go_enter Try.func222, Try.ntmps222
  go_wp2
  go_loopw [0, 3] (fun u s wr => ∃ (m : Nat) (t : ByteArray), (m : Int) ≤ 10000000 ∧ u = .int .i64 m ∧ s = .string t ∧ Hid (∃ l, t = strOfNums l ∧ digs m ++ l = digs k) ∧ Below w.heap.size w wr ∧ t.size + m ≤ 10000000) (fun u _ _ => (intOf u).toNat)
  case atStart => exact ⟨k, ⟨#[]⟩, hk, rfl, rfl, Lib.hid ⟨[], rfl, by simp⟩, Below.refl _ _, by show 0 + k ≤ _; omega⟩
  case round =>
    obtain ⟨m, t, hm, rfl, rfl, HD, hb, hl⟩ := hrel
    rcases Nat.eq_zero_or_pos m with hz | hz
    · subst hz
      have hs : ¬ 9223372036854775807 < 1 + t.size := by omega
      go_wp2
      go_ret
      obtain ⟨l, rfl, hd⟩ := HD.out
      rw [digs_zero, List.nil_append] at hd
      exact ⟨ret_str (by unfold markT; rw [← hd]; exact strOfNums_join [109] l), hb⟩
    · have hm0 : (0 : Int) < (m : Int) := by omega
      have hr0 : 0 ≤ (m : Int) % 10 := by omega
      have hr1 : (m : Int) % 10 < 10 := by omega
      have hs : ¬ 9223372036854775807 < 1 + t.size := by omega
      obtain ⟨d, hd⟩ : ∃ d, d = strOfNums [48 + (m : Int) % 10] := ⟨_, rfl⟩
      have hds : d.size = 1 := by rw [hd, strOfNums_size]; rfl
      have HE := Lib.hid hd
      have hs2 : ¬ 9223372036854775807 < d.size + t.size := by omega
      have HZ := Lib.hid hds
      have hq : ((m : Int)) / 10 = ((m / 10 : Nat) : Int) := by omega
      clear hd hds hq
      go_wp2_with (with_reducible show wpList _ _ _ (⟨some 13, _, _, _, _, _⟩ :: _) _ _; go_must (refine wpList_one_byte rfl _ rfl 1 _ d rfl HE.out ?_))
      go_roundw
      case rel => exact ⟨m / 10, d ++ t, by omega, congrArg (Value.int .i64) (by omega), rfl, Lib.hid (by
        obtain ⟨l, rfl, hl2⟩ := HD.out
        refine ⟨(48 + (m : Int) % 10) :: l, by rw [HE.out]; exact strOfNums_join [_] l, ?_⟩
        rw [← hl2, digs_pos hz, List.append_assoc]
        congr 1), hb.alloc hb.size _, by rw [ByteArray.size_append, HZ.out]; omega⟩
      case measure => simp [intOf]; omega
/-- Outside the blocks from lo up to hi nothing turned (new blocks may lie behind). -/
def Keep (lo hi : Nat) (w w' : World) : Prop := Below lo w w' ∧ Same hi w.heap.size w w'
section
variable {w w' w'' : World} {lo hi : Nat}
theorem Keep.refl (lo hi : Nat) (w : World) : Keep lo hi w w := ⟨Below.refl _ _, Same.refl _ _ _⟩
theorem Keep.trans (h : Keep lo hi w w') (k : Keep lo hi w' w'') : Keep lo hi w w'' := ⟨h.1.trans k.1, h.2.trans (k.2.mono (Nat.le_refl _) h.1.size)⟩
theorem Keep.set_ (h : Keep lo hi w w') {g k : Nat} (h1 : lo ≤ g) (h2 : g < hi) (u : Value) : Keep lo hi w (w'.setCell ⟨g, k, none⟩ u) := ⟨bset h.1 h1 u, sset h.2 (.inl h2) u⟩
theorem Keep.call (h : Keep lo hi w w') (hb : Below w'.heap.size w' w'') (hl : lo ≤ w.heap.size) : Keep lo hi w w'' := ⟨h.1.trans (hb.mono (by have := h.1.size; omega)), h.2.trans (sm hb hi h.1.size)⟩
theorem Keep.size (h : Keep lo hi w w') : w.heap.size ≤ w'.heap.size := h.1.size
theorem Keep.high (h : Keep lo hi w w') {hi' : Nat} (a : hi' ≤ w.heap.size) : Same hi hi' w w' := h.2.mono (Nat.le_refl _) a
theorem Keep.low (h : Keep lo hi w w') (b : Nat) : Same b lo w w' := sm h.1 b (Nat.le_refl _)
end
theorem markText_int (k : Nat) (a : Int) (w : World) (ha : a = (k : Int)) (h0 : 0 < k) (h1 : k ≤ 10000000) :
    Calls Try.prog 222 #[.int .i64 a] w fun e w' => e = .returned (.string (markT k)) ∧ Below w.heap.size w w' := by rw [ha]; exact markText_any k w h0 h1
theorem markT_size (k : Nat) (h : k ≤ 10000000) : (markT k).size ≤ 9223372036854775807 := by
  have hd : ∀ n k, k ≤ n → (digs k).length ≤ k := by
    intro n
    induction n with
    | zero => intro k hk; obtain rfl : k = 0 := by omega
              rw [digs_zero]; simp
    | succ n ih =>
      intro k hk
      rcases Nat.eq_zero_or_pos k with h0 | h0
      · subst h0; rw [digs_zero]; simp
      · rw [digs_pos h0, List.length_append]
        have := ih (k / 10) (by omega)
        simp only [List.length_cons, List.length_nil]
        omega
  unfold markT
  rw [strOfNums_size, List.length_cons]
  have := hd k k (Nat.le_refl _)
  omega
/-- Texts, the first of them marked. -/
def mks (m : Nat) (l : List ByteArray) (i : Nat) : List ByteArray := (List.range i).map (fun t => markT (m + t)) ++ l.drop i
theorem mks_length (m : Nat) (l : List ByteArray) (i : Nat) (h : i ≤ l.length) : (mks m l i).length = l.length := by simp [mks]; omega
theorem mks_set (m : Nat) (l : List ByteArray) (i : Nat) (h : i < l.length) : (mks m l i).set i (markT (m + i)) = mks m l (i + 1) := by
  unfold mks
  rw [List.set_append_right _ _ (by simp), List.length_map, List.length_range, Nat.sub_self, List.drop_eq_getElem_cons h, List.set_cons_zero, List.range_succ, List.map_append, List.append_assoc]; rfl
theorem mks_all (m : Nat) (l : List ByteArray) : mks m l l.length = (List.range l.length).map fun t => markT (m + t) := by simp [mks]
def Blk.pages (x : Blk) (l : List ByteArray) : Blk := { x with pg := l }
theorem set_set_pages (L : List Blk) (k : Nat) (l l' : List ByteArray) (hk : k < L.length) : (L.set k ((L.getD k Blk.zero).pages l)).set k (((L.set k ((L.getD k Blk.zero).pages l)).getD k Blk.zero).pages l') = L.set k ((L.getD k Blk.zero).pages l') := by
  rw [List.set_set, getD_set_eq _ _ _ _ hk]; rfl
def MkPost (B lo hi g : Nat) (pv : Nat → Value) (L : List Blk) (n : Nat) (w : World) (e : Ending) (w' : World) : Prop := e = .returned (.int .i64 n) ∧ BO w' lo hi g pv L ∧ Keep B hi w w'
set_option maxRecDepth 100000 in
theorem markPages_any (w : World) (lo hi g : Nat) (pv : Nat → Value) (L : List Blk) (k m : Nat) (h : BO w lo hi g pv L) (hk : k < L.length) (hh : hi ≤ w.heap.size) (hm : 0 < m) (hl : m + (L.getD k Blk.zero).pg.length ≤ 10000000) :
    Calls Try.prog 188 #[pv k, .int .i64 m] w (MkPost lo lo hi g pv (L.set k ((L.getD k Blk.zero).pages ((List.range (L.getD k Blk.zero).pg.length).map fun t => markT (m + t)))) (m + (L.getD k Blk.zero).pg.length) w) := by
  obtain ⟨A, n, cap, hv, hlc, hcm, hn, hsm, hA⟩ := h.pgs k hk
  rw [hn] at hl ⊢
  have hnm : (n : Int) ≤ 10000000 := by omega
  have hmm : (m : Int) + n ≤ 10000000 := by omega
  rcases Nat.eq_zero_or_pos n with h0 | h0
  · subst h0
    have hst : L.set k ((L.getD k Blk.zero).pages ((List.range 0).map fun t => markT (m + t))) = L := by
      have e : (L.getD k Blk.zero).pg = [] := List.eq_nil_of_length_eq_zero hn
      have e2 : (L.getD k Blk.zero).pages ((List.range 0).map fun t => markT (m + t)) = L.getD k Blk.zero := by unfold Blk.pages; rw [List.range_zero, List.map_nil, ← e]
      rw [e2, List.getD_eq_getElem?_getD, List.getElem?_eq_getElem hk]
      exact List.set_getElem_self hk
    have H := Lib.hid h
    rw [hv, hst]
    clear hA hn hsm hst h hv hl
    go_enter Try.func188, Try.ntmps188
    go_wp2
    go_loopw [1, 5] (fun u i wr => u = .int .i64 m ∧ i = .int .i64 0 ∧ wr = w) (fun _ _ _ => 0)
    case atStart => exact ⟨rfl, rfl, rfl⟩
    case round =>
      obtain ⟨rfl, rfl, rfl⟩ := hrel
      go_wp2
      go_ret
      exact ⟨rfl, H.out, Keep.refl _ _ _⟩
  · obtain ⟨b, off, rfl, hb1, hb2, hbg, hf, hx⟩ := hA h0
    have hst : L.set k ((L.getD k Blk.zero).pages (mks m (L.getD k Blk.zero).pg 0)) = L := by
      have e2 : (L.getD k Blk.zero).pages (mks m (L.getD k Blk.zero).pg 0) = L.getD k Blk.zero := by unfold Blk.pages mks; simp
      rw [e2, List.getD_eq_getElem?_getD, List.getElem?_eq_getElem hk]
      exact List.set_getElem_self hk
    have h' := h
    rw [← hst] at h'
    have HST := Lib.hid (show mks m (L.getD k Blk.zero).pg n = (List.range n).map fun t => markT (m + t) by rw [← hn]; exact mks_all _ _)
    have H := Lib.hid h'
    have HV := Lib.hid hv
    have HN := Lib.hid hn
    rw [hv]
    clear hA hn hsm hst h h' hv hf hx hl
    go_enter Try.func188, Try.ntmps188
    go_wp2
    go_loopw [1, 5] (fun u i wr => ∃ t : Nat, t ≤ n ∧ i = .int .i64 t ∧ u = .int .i64 ((m + t : Nat) : Int) ∧ BO wr lo hi g pv (L.set k ((L.getD k Blk.zero).pages (mks m (L.getD k Blk.zero).pg t))) ∧ Keep lo hi w wr) (fun _ i _ => n - (intOf i).toNat)
    case atStart => exact ⟨0, by omega, rfl, rfl, H.out, Keep.refl _ _ _⟩
    case round =>
      obtain ⟨t, ht, rfl, rfl, hbo, hkp⟩ := hrel
      by_cases hlt : t < n
      · have hti : (t : Int) < (n : Int) := by omega
        have HBO := Lib.hid hbo
        have HK := Lib.hid hkp
        have hsz := hkp.size
        clear hbo hkp
        go_wp2_with fail
        refine (markText_int (m + t) _ _ (by omega) (by omega) (by omega)).mono ?_
        rintro e w1 ⟨rfl, hb1⟩
        have o1 := HBO.out.same (sm hb1 lo (by omega))
        have K1 := Lib.hid (HK.out.call hb1 (by have := o1.low; have := o1.high; omega))
        obtain ⟨c1, f1, l1, l2, _⟩ := o1.page (t := t) (by simpa using hk) HV.out hlt
        have o2 := o1.storePg (n := t) (by simpa using hk) hlt HV.out (markT (m + t)) (markT_size _ (by omega))
        have e2 : (L.set k ((L.getD k Blk.zero).pages (mks m (L.getD k Blk.zero).pg t))).set k { (L.set k ((L.getD k Blk.zero).pages (mks m (L.getD k Blk.zero).pg t))).getD k Blk.zero with pg := ((L.set k ((L.getD k Blk.zero).pages (mks m (L.getD k Blk.zero).pg t))).getD k Blk.zero).pg.set t (markT (m + t)) } =
            L.set k ((L.getD k Blk.zero).pages (mks m (L.getD k Blk.zero).pg (t + 1))) := by
          rw [List.set_set, getD_set_eq _ _ _ _ hk, ← mks_set m (L.getD k Blk.zero).pg t (by have := HN.out; omega)]; rfl
        rw [e2] at o2
        have O2 := Lib.hid o2
        clear o1 o2 e2 HBO HK hb1
        generalize markT (m + t) = s at *
        go_wp2
        go_roundw
        case rel => exact ⟨t + 1, by omega, by go_num, congrArg (Value.int .i64) (by omega), O2.out, K1.out.set_ l1 l2 _⟩
        case measure => simp [intOf]; omega
      · obtain rfl : t = n := by omega
        rw [HST.out] at hbo
        have HBO := Lib.hid hbo
        clear hbo
        go_wp2
        go_ret
        exact ⟨rfl, HBO.out, hkp⟩
section
variable {w : World} {lo hi g k c : Nat} {pv : Nat → Value} {L : List Blk} {a : Blk}
theorem BO.self (h : BO w lo hi g pv L) (hk : k < L.length) : BO w lo hi g pv (L.set k (L.getD k Blk.zero)) := by
  rw [List.getD_eq_getElem?_getD, List.getElem?_eq_getElem hk]
  simpa using h
theorem BO.storeS (h : BO w lo hi g pv (L.set k a)) (hk : k < L.length) (u : Value) (hc : (c = 0 ∧ ∃ n, u = .int .i64 n) ∨ (c = 1 ∧ ∃ n, u = .int .i64 n) ∨ (c = 2 ∧ ∃ b, u = .bool b)) :
    BO (w.setCell ⟨g, k * 4 + c, none⟩ u) lo hi g pv (L.set k (a.put c u)) := by
  have := h.store (k := k) (by simpa using hk) u hc
  rwa [List.set_set, getD_set_eq _ _ _ _ hk] at this
theorem markPagesS (h : BO w lo hi g pv (L.set k a)) (m : Nat) (b : Int) (hk : k < L.length) (hh : hi ≤ w.heap.size) (hb : b = (m : Int)) (hm : 0 < m) (hl : m + a.pg.length ≤ 10000000) :
    Calls Try.prog 188 #[pv k, .int .i64 b] w (MkPost lo lo hi g pv (L.set k (a.pages ((List.range a.pg.length).map fun t => markT (m + t)))) (m + a.pg.length) w) := by
  have e := getD_set_eq L k a Blk.zero hk
  have := markPages_any w lo hi g pv (L.set k a) k m h (by simpa using hk) hh hm (by rw [e]; exact hl)
  rw [e, List.set_set] at this
  rw [hb]
  exact this
theorem BO.cells (h : BO w lo hi g pv (L.set k a)) (hk : k < L.length) : BkAt w g (k * 4) a (pv k) := by
  have := h.row k (by simpa using hk)
  rwa [getD_set_eq _ _ _ _ hk] at this
end
theorem marks_set (L : List Blk) (m i : Nat) (hi : i < L.length) : (markLs m (L.take i) ++ L.drop i).getD i Blk.zero = L.getD i Blk.zero ∧
    (markLs m (L.take i) ++ L.drop i).set i (markB (m + markN (L.take i)) (L.getD i Blk.zero)) = markLs m (L.take (i + 1)) ++ L.drop (i + 1) := by
  have hl : (markLs m (L.take i)).length = i := by rw [markLs_length]; simp; omega
  constructor
  · rw [List.getD_eq_getElem?_getD, List.getElem?_append_right (by omega), hl, Nat.sub_self, List.getElem?_drop, List.getD_eq_getElem?_getD, Nat.add_zero]
  · rw [List.set_append_right _ _ (by omega), hl, Nat.sub_self, List.drop_eq_getElem_cons hi, List.set_cons_zero, markLs_take m hi, List.append_assoc]; rfl
theorem beq3 (q : Nat) : ((1 + (q : Int) + 1 + 1) % 3 == 0) = decide ((1 + q + 2) % 3 = 0) := by
  rw [Bool.eq_iff_iff]; simp; omega
def MbPost (lo hi : Nat) (v : Value) (L : List Blk) (m : Nat) (w : World) (e : Ending) (w' : World) : Prop := e = .returned (.int .i64 (m + markN L : Nat)) ∧ BksOwn w' lo hi v (markLs m L) ∧ Keep lo hi w w'
set_option maxRecDepth 100000 in
theorem markBlocks_any (v : Value) (L : List Blk) (w : World) (lo hi : Nat) (h : BksOwn w lo hi v L) (hh : hi ≤ w.heap.size) (hl : 1 + markN L ≤ 10000000) (hl2 : L.length ≤ 1048576) :
    Calls Try.prog 128 #[v, .int .i64 1] w (MbPost lo hi v L 1 w) := by
  have hown := h
  obtain ⟨A, n, cap, rfl, hlc, hcm, hn, hA⟩ := h
  have hnm : (n : Int) ≤ 1048576 := by omega
  rcases Nat.eq_zero_or_pos n with h0 | h0
  · subst h0
    obtain rfl : L = [] := List.eq_nil_of_length_eq_zero hn
    have H := Lib.hid hown
    clear hA hn hown hlc hcm hl
    go_enter Try.func128, Try.ntmps128
    go_wp2
    go_loopw [1, 5] (fun u i wr => u = .int .i64 1 ∧ i = .int .i64 0 ∧ wr = w) (fun _ _ _ => 0)
    case atStart => exact ⟨rfl, rfl, rfl⟩
    case round =>
      obtain ⟨rfl, rfl, rfl⟩ := hrel
      go_wp2
      go_ret
      exact ⟨rfl, H.out, Keep.refl _ _ _⟩
  · obtain ⟨g, pv, rfl, hbo⟩ := hA h0
    have HBO := Lib.hid hbo
    have HN := Lib.hid hn
    have HL := Lib.hid hl
    clear hA hn hown hl hbo
    go_enter Try.func128, Try.ntmps128
    go_wp2
    go_loopw [1, 5] (fun u i wr => ∃ t : Nat, t ≤ n ∧ i = .int .i64 t ∧ u = .int .i64 ((1 + markN (L.take t) : Nat) : Int) ∧ BO wr lo hi g pv (markLs 1 (L.take t) ++ L.drop t) ∧ Keep lo hi w wr) (fun _ i _ => n - (intOf i).toNat)
    case atStart => exact ⟨0, by omega, rfl, by simp [markN], by simpa [markLs] using HBO.out, Keep.refl _ _ _⟩
    case round =>
      obtain ⟨t, ht, rfl, rfl, hbo, hkp⟩ := hrel
      have hN := HN.out
      by_cases hlt : t < n
      · have hti : (t : Int) < (n : Int) := by omega
        have hk : t < (markLs 1 (L.take t) ++ L.drop t).length := by simp [markLs_length]; omega
        have hle := markN_le (L := L) (t + 1)
        have hL := HL.out
        rw [markN_take (by omega)] at hle
        have o0 := hbo.self hk
        obtain ⟨e1, e2⟩ := marks_set L 1 t (by omega)
        rw [e1] at o0
        have HE2 := Lib.hid e2
        have HKL := Lib.hid hk
        generalize hxx : L.getD t Blk.zero = x at *
        generalize hqq : markN (L.take t) = q at *
        have HX := Lib.hid hxx
        have HQ := Lib.hid hqq
        clear hxx hqq
        generalize markLs 1 (L.take t) ++ L.drop t = M at *
        obtain ⟨er, nx, bad, pg⟩ := x
        simp only at hle
        obtain ⟨q0, q1, q2, q3⟩ := o0.cells hk
        have f0 := o0.free (t * 4)
        have f1 := o0.free (t * 4 + 1)
        have f2 := o0.free (t * 4 + 2)
        have f3 := o0.free (t * 4 + 3)
        have HK := Lib.hid hkp
        have O0 := Lib.hid o0
        have hsz := hkp.size
        have HLE := Lib.hid hle
        have hq : ((1 + q : Nat) : Int) ≤ 10000000 - 3 := by omega
        simp only at q0 q1 q2
        clear hN hk hL o0 e1 e2 hbo hkp hle
        go_wp2_with fail
        have o1 := O0.out.storeS (c := 0) HKL.out (.int .i64 (1 + (q : Int))) (.inl ⟨rfl, _, rfl⟩)
        have o2 := o1.storeS (c := 1) HKL.out (.int .i64 (1 + (q : Int) + 1)) (.inr (.inl ⟨rfl, _, rfl⟩))
        have o3 := o2.storeS (c := 2) HKL.out (.bool ((1 + (q : Int) + 1 + 1) % 3 == 0)) (.inr (.inr ⟨rfl, _, rfl⟩))
        have l1 := o3.low
        have l2 := o3.high
        have K3 := Lib.hid (((HK.out.set_ (g := g) (k := t * 4) l1 l2 (.int .i64 (1 + (q : Int)))).set_ (g := g) (k := t * 4 + 1) l1 l2 (.int .i64 (1 + (q : Int) + 1))).set_ (g := g) (k := t * 4 + 2) l1 l2 (.bool ((1 + (q : Int) + 1 + 1) % 3 == 0)))
        have hem : (((Blk.mk er nx bad pg).put 0 (.int .i64 (1 + (q : Int)))).put 1 (.int .i64 (1 + (q : Int) + 1))).put 2 (.bool ((1 + (q : Int) + 1 + 1) % 3 == 0)) = ⟨((1 + q : Nat) : Int), ((1 + q + 1 : Nat) : Int), decide ((1 + q + 2) % 3 = 0), pg⟩ := by
          show Blk.mk _ _ _ _ = _
          rw [beq3 q]
          congr 1
        rw [hem] at o3
        refine (markPagesS o3 (1 + q + 3) _ HKL.out (by simp; omega) (by omega) (by omega) (by show 1 + q + 3 + pg.length ≤ _; have := HLE.out; have := HL.out; omega)).mono ?_
        rintro e w1 ⟨rfl, o4, hk4⟩
        have K4 := Lib.hid (K3.out.trans hk4)
        have O4 := Lib.hid (show BO w1 lo hi g pv (markLs 1 (L.take (t + 1)) ++ L.drop (t + 1)) by rw [← HE2.out]; exact o4)
        have HM := Lib.hid (show markN (L.take (t + 1)) = q + (3 + pg.length) by rw [markN_take (by have := HN.out; omega), HQ.out, HX.out])
        clear o1 o2 o3 o4 hk4 hem q0 q1 q2 q3 f0 f1 f2 f3 HK K3 O0
        simp only
        go_wp2
        go_roundw
        case rel => exact ⟨t + 1, by omega, by go_num, congrArg (Value.int .i64) (by rw [HM.out]; omega), O4.out, K4.out⟩
        case measure => simp [intOf]; omega
      · obtain rfl : t = n := by omega
        rw [List.drop_eq_nil_of_le (by omega), List.append_nil, List.take_of_length_le (by omega)] at hbo
        have HBO := Lib.hid hbo
        have HE := Lib.hid (show markN (L.take t) = markN L by rw [List.take_of_length_le (by omega)])
        clear hbo hN
        go_wp2
        go_ret
        exact ⟨by rw [HE.out]; rfl, ⟨_, _, _, rfl, by omega, by omega, by rw [markLs_length]; exact HN.out, fun _ => ⟨g, pv, rfl, HBO.out⟩⟩, hkp⟩
theorem markFlash_any (v : Value) (F : Fl) (w : World) (lo hi : Nat) (h : FlOwn w lo hi v F) (hh : hi ≤ w.heap.size) (hlo : lo ≤ w.heap.size) (hz : FlSz F) :
    Calls Try.prog 49 #[v, .int .i64 1] w fun e w' => e = .returned (.int .i64 (1 + markN F.bs : Nat)) ∧ (∃ G : Fl, G.bs = markLs 1 F.bs ∧ FlOwn w' lo hi v G) ∧ Keep lo hi w w' := by
  obtain ⟨u, rfl, h⟩ := h
  have hm := markN_sz F.bs
  have HS := Lib.hid (fun (W : World) (a : BksOwn W lo hi u F.bs) (c : hi ≤ W.heap.size) => markBlocks_any u F.bs W lo hi a c (by unfold FlSz at hz; omega) (by unfold FlSz at hz; omega))
  have H := Lib.hid h
  clear h hz hm
  obtain ⟨d, b, p, bs, fu, ke, off, op⟩ := F
  unfold flc
  simp only at *
  have HK := Lib.hid ((Keep.refl lo hi w).call ((Below.refl w.heap.size w).alloc (Nat.le_refl _) (.cells #[.int .i64 d, .int .i64 b, .int .i64 p, u, .int .i64 fu, .int .i64 ke, .bool off, .int .i64 op] 67)) hlo)
  go_enter Try.func49, Try.ntmps49
  go_wp2_with fail
  have b1 := ((Below.refl w.heap.size w).alloc (Nat.le_refl _) (.cells #[.int .i64 d, .int .i64 b, .int .i64 p, u, .int .i64 fu, .int .i64 ke, .bool off, .int .i64 op] 67))
  refine (HS.out _ (H.out.same (sm b1 lo hh)) (by simp; omega)).mono ?_
  rintro e w1 ⟨rfl, ho, hk⟩
  have HK2 := Lib.hid (HK.out.trans hk)
  have HO := Lib.hid ho
  clear hk ho b1
  go_wp2
  go_ret
  exact ⟨rfl, ⟨⟨d, b, p, markLs 1 bs, fu, ke, off, op⟩, rfl, _, rfl, HO.out⟩, HK2.out⟩
theorem heldPages_any (v : Value) (n m : Nat) (w : World) (lo hi : Nat) (h : PgIn w lo hi v ((List.range n).map fun t => markT (m + t))) (hh : hi ≤ w.heap.size) (hm : 0 < m) (hl : m + n ≤ 10000000) :
    Calls Try.prog 189 #[v, .int .i64 m] w fun e w' => e = .returned (.int .i64 (m + n : Nat)) ∧ Below w.heap.size w w' := by
  obtain ⟨A, n', cap, rfl, hlc, hcm, hn, hsm, hA⟩ := h
  obtain rfl : n' = n := by simpa using hn.symm
  have hnm : (n' : Int) ≤ 10000000 := by omega
  have hmm : (m : Int) + n' ≤ 10000000 := by omega
  clear hn hsm
  rcases Nat.eq_zero_or_pos n' with h0 | h0
  · subst h0
    clear hA
    go_enter Try.func189, Try.ntmps189
    go_wp2
    go_loopw [1, 5] (fun u i wr => u = .int .i64 m ∧ i = .int .i64 0 ∧ wr = w) (fun _ _ _ => 0)
    case atStart => exact ⟨rfl, rfl, rfl⟩
    case round =>
      obtain ⟨rfl, rfl, rfl⟩ := hrel
      go_wp2
      go_ret
      exact ⟨rfl, Below.refl _ _⟩
  · obtain ⟨b, off, rfl, hb1, hb2, hx⟩ := hA h0
    have HX := Lib.hid hx
    clear hA hx
    go_enter Try.func189, Try.ntmps189
    go_wp2
    go_loopw [1, 5] (fun u i wr => ∃ t : Nat, t ≤ n' ∧ i = .int .i64 t ∧ u = .int .i64 ((m + t : Nat) : Int) ∧ Below w.heap.size w wr) (fun _ i _ => n' - (intOf i).toNat)
    case atStart => exact ⟨0, by omega, rfl, rfl, Below.refl _ _⟩
    case round =>
      obtain ⟨t, ht, rfl, rfl, hb⟩ := hrel
      by_cases hlt : t < n'
      · have hti : (t : Int) < (n' : Int) := by omega
        have hc := HX.out t hlt
        rw [show ((List.range n').map fun t => markT (m + t)).getD t ByteArray.empty = markT (m + t) by simp [List.getD_eq_getElem?_getD, hlt]] at hc
        have q := (hb.cell (p := ⟨b, off + t, none⟩) (by simp; omega)).trans hc
        have hsz := hb.size
        have HT := Lib.hid (fun (W : World) (a : Int) (ha : a = ((m + t : Nat) : Int)) => markText_int (m + t) a W ha (by omega) (by omega))
        generalize markT (m + t) = s at *
        have hxx := str_same (rfl : s = s)
        clear hc
        have HB := Lib.hid hb
        clear hb
        go_wp2_with fail
        go_region_held3 (fun w' => w'.cell? ⟨b, off + t, none⟩ = some (.string s) ∧ Below w.heap.size w w')
          (first
            | exact ⟨q, HB.out.drew⟩
            | (go_split_ands
               rename_i hS1 hS2
               exact ⟨(hb1.cell (p := ⟨b, off + t, none⟩) (by have := hS2.size; show b < _; omega)).trans hS1, hS2.trans (hb1.mono hS2.size)⟩))
          (first
            | (go_at_call 222
               refine (HT.out _ _ (by omega)).mono ?_
               rintro e w1 ⟨rfl, hb1⟩))
        rename_i hS2
        have HB2 := Lib.hid hS2.2
        clear hS2 hb1
        go_wp2
        go_roundw
        case rel => exact ⟨t + 1, by omega, by go_num, congrArg (Value.int .i64) (by omega), HB2.out⟩
        case measure => simp [intOf]; omega
      · obtain rfl : t = n' := by omega
        go_wp2
        go_ret
        exact ⟨rfl, hb⟩
theorem heldPages_int (v : Value) (n m : Nat) (b : Int) (w : World) (lo hi : Nat) (hb : b = (m : Int)) (h : PgIn w lo hi v ((List.range n).map fun t => markT (m + t))) (hh : hi ≤ w.heap.size) (hm : 0 < m) (hl : m + n ≤ 10000000) :
    Calls Try.prog 189 #[v, .int .i64 b] w fun e w' => e = .returned (.int .i64 (m + n : Nat)) ∧ Below w.heap.size w w' := by rw [hb]; exact heldPages_any v n m w lo hi h hh hm hl
set_option maxRecDepth 100000 in
theorem heldBlocks_any (v : Value) (L : List Blk) (w : World) (lo hi : Nat) (h : BksIn w lo hi v (markLs 1 L)) (hh : hi ≤ w.heap.size) (hl : 1 + markN L ≤ 10000000) (hl2 : L.length ≤ 1048576) :
    Calls Try.prog 129 #[v, .int .i64 1] w fun e w' => e = .returned (.int .i64 (1 + markN L : Nat)) ∧ Below w.heap.size w w' := by
  obtain ⟨A, n, cap, rfl, hlc, hcm, hn, hA⟩ := h
  rw [markLs_length] at hn
  have hnm : (n : Int) ≤ 1048576 := by omega
  rcases Nat.eq_zero_or_pos n with h0 | h0
  · subst h0
    obtain rfl : L = [] := List.eq_nil_of_length_eq_zero hn
    clear hA hn hlc hcm hl
    go_enter Try.func129, Try.ntmps129
    go_wp2
    go_loopw [1, 5] (fun u i wr => u = .int .i64 1 ∧ i = .int .i64 0 ∧ wr = w) (fun _ _ _ => 0)
    case atStart => exact ⟨rfl, rfl, rfl⟩
    case round =>
      obtain ⟨rfl, rfl, rfl⟩ := hrel
      go_wp2
      go_ret
      exact ⟨rfl, Below.refl _ _⟩
  · obtain ⟨g, off, rfl, hg1, hg2, hx⟩ := hA h0
    have HX := Lib.hid hx
    have HN := Lib.hid hn
    have HL := Lib.hid hl
    clear hA hn hl hx
    go_enter Try.func129, Try.ntmps129
    go_wp2
    go_loopw [1, 5] (fun u i wr => ∃ t : Nat, t ≤ n ∧ i = .int .i64 t ∧ u = .int .i64 ((1 + markN (L.take t) : Nat) : Int) ∧ Below w.heap.size w wr) (fun _ i _ => n - (intOf i).toNat)
    case atStart => exact ⟨0, by omega, rfl, by simp [markN], Below.refl _ _⟩
    case round =>
      obtain ⟨t, ht, rfl, rfl, hb⟩ := hrel
      have hN := HN.out
      by_cases hlt : t < n
      · have hti : (t : Int) < (n : Int) := by omega
        have hle := markN_le (L := L) (t + 1)
        have hL := HL.out
        rw [markN_take (by omega)] at hle
        obtain ⟨pv, ⟨c0, c1, c2, c3⟩, hpg⟩ := HX.out t hlt
        rw [markLs_at 1 (by omega)] at c0 c1 c2 hpg
        have HM := Lib.hid (markN_take (L := L) (i := t) (by omega))
        generalize L.getD t Blk.zero = x at *
        generalize markN (L.take t) = q at *
        obtain ⟨er, nx, bad, pg⟩ := x
        simp only at hle
        have HLE := Lib.hid hle
        have q0 := (hb.cell (p := ⟨g, off + t * 4, none⟩) (by simp; omega)).trans c0
        have q1 := (hb.cell (p := ⟨g, off + t * 4 + 1, none⟩) (by simp; omega)).trans c1
        have q2 := (hb.cell (p := ⟨g, off + t * 4 + 2, none⟩) (by simp; omega)).trans c2
        have q3 := (hb.cell (p := ⟨g, off + t * 4 + 3, none⟩) (by simp; omega)).trans c3
        have HPG := Lib.hid (hpg.same (sm hb lo hh))
        have HB := Lib.hid hb
        have hsz := hb.size
        have hq : ((1 + q : Nat) : Int) ≤ 10000000 - 3 := by omega
        unfold markB at q0 q1 q2 HPG
        simp only at q0 q1 q2 HPG
        rw [← beq3 q] at q2
        have hqe : ((1 + q + 1 : Nat) : Int) = 1 + (q : Int) + 1 := by omega
        have hqf : ((1 + q : Nat) : Int) = 1 + (q : Int) := by omega
        rw [hqe] at q1
        rw [hqf] at q0
        generalize hz : ((1 + (q : Int) + 1 + 1) % 3 == 0) = z at *
        clear hN hL c0 c1 c2 c3 hpg hle hb hqe hqf
        go_wp2_with fail
        refine (heldPages_int _ _ (1 + q + 3) _ _ lo hi (by omega) HPG.out (by omega) (by omega) (by have := HLE.out; have := HL.out; omega)).mono ?_
        rintro e w1 ⟨rfl, hb1⟩
        have HB1 := Lib.hid (HB.out.trans (hb1.mono hsz))
        clear hb1 q0 q1 q2 q3
        go_wp2
        go_roundw
        case rel => exact ⟨t + 1, by omega, by go_num, congrArg (Value.int .i64) (by rw [HM.out]; show _ = ((1 + (q + (3 + pg.length)) : Nat) : Int); omega), HB1.out⟩
        case measure => simp [intOf]; omega
      · obtain rfl : t = n := by omega
        have HE := Lib.hid (show markN (L.take t) = markN L by rw [List.take_of_length_le (by omega)])
        clear hN
        go_wp2
        go_ret
        exact ⟨by rw [HE.out]; rfl, hb⟩
theorem heldFlash_any (v : Value) (F G : Fl) (w : World) (lo hi : Nat) (hg : G.bs = markLs 1 F.bs) (h : FlIn w lo hi v G) (hh : hi ≤ w.heap.size) (hz : FlSz F) :
    Calls Try.prog 50 #[v, .int .i64 1] w fun e w' => e = .returned (.int .i64 (1 + markN F.bs : Nat)) ∧ Below w.heap.size w w' := by
  obtain ⟨u, rfl, h⟩ := h
  have hm := markN_sz F.bs
  rw [hg] at h
  have HS := Lib.hid (fun (W : World) (a : BksIn W lo hi u (markLs 1 F.bs)) (c : hi ≤ W.heap.size) => heldBlocks_any u F.bs W lo hi a c (by unfold FlSz at hz; omega) (by unfold FlSz at hz; omega))
  have H := Lib.hid h
  have hq : (1 : Int) + (markN F.bs : Int) ≤ 10000000 := by unfold FlSz at hz; omega
  clear h hz hm hg
  obtain ⟨d, b, p, bs, fu, ke, off, op⟩ := G
  unfold flc
  simp only at *
  generalize markN F.bs = q at *
  have b1 := ((Below.refl w.heap.size w).alloc (Nat.le_refl _) (.cells #[.int .i64 d, .int .i64 b, .int .i64 p, u, .int .i64 fu, .int .i64 ke, .bool off, .int .i64 op] 67))
  have HB := Lib.hid b1
  clear b1
  go_enter Try.func50, Try.ntmps50
  go_wp2_with fail
  refine (HS.out _ (H.out.same (sm HB.out lo hh)) (by simp; omega)).mono ?_
  rintro e w1 ⟨rfl, hb1⟩
  have HB1 := Lib.hid (HB.out.trans (hb1.mono (by simp)))
  clear hb1
  go_wp2
  go_ret
  exact ⟨rfl, HB1.out⟩
end Go.Proofs.Ytainlanblpccjaa
