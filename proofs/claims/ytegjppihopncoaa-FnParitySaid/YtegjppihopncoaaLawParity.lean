/- The law FnParity: for every argument ([]byte, []byte) the call returns true, and each argument reads afterwards as it read before. No further condition. -/
import Derived.Test.YtegjppihopncoaaRows
import Derived.Test.YtegjppihopncoaaData
import Derived.Test.YtegjppihopncoaaVS
import Derived.Test.YtegjppihopncoaaUpd
import Derived.Test.YtegjppihopncoaaReb
import Derived.Test.YtegjppihopncoaaRepN
import Derived.WalkKit
import Derived.ProofKit
import Derived.OpenShut
import Derived.ShutString
import Derived.ChangeOld
import Derived.Below
namespace Go.Proofs.Ytegjppihopncoaa.fnParity
open Go.ChangeShapes Go.WideShapes Go.ChangeAt Go.RowKit
open Go.ChangeMaps (open_string shut_string)
set_option linter.unusedVariables false

theorem b10At_one (v : Value) (i : Nat) (w : World) (h : ∃ A len cap, v = .slice A len cap) :
    Calls Try.prog 5 #[v, .int .i64 i, .int .i64 1] w (AtPost 1 w) := by
  obtain ⟨A, len, cap, rfl⟩ := h
  go_enter Try.func5, Try.ntmps5
  go_wp2
  go_ret
  exact ⟨_, rfl, by omega, by omega, rfl⟩
theorem b10At_len (B : Nat) (v : Value) (i n : Nat) (w : World) (h : CodeIs w B v) (hi : i ≤ 100000000) (h1 : 1 ≤ n) (h8 : n ≤ 8) :
    Calls Try.prog 5 #[v, .int .i64 i, .int .i64 (n : Int)] w (AtPost n w) := by
  by_cases e : n = 1
  · subst e
    obtain ⟨A, len, cap, rfl, _⟩ := h
    exact b10At_one _ i w ⟨_, _, _, rfl⟩
  · exact b10At_any B v i n w h hi (by omega) (by omega)
theorem wpList_append_str {Q : Exit → Act → World → Prop} {ops : Array Oper} {rest : List Oper} {o : Oper} {a : Act} {w0 wr : World} {B : Nat} (hgd : o.guard = none) (s x : Operand)
    (ho : o.op = .call { callee := .builtin .append, args := #[s, x], argTypes := #[24, 24] })
    (v : Value) (l : List ByteArray) (hs : a.eval s = v) (hown : StrsOwn wr B v l) (hb : Below B w0 wr) (hB : B ≤ wr.heap.size)
    (b : ByteArray) (c : Nat) (hx : a.eval x = .slice (some ⟨wr.heap.size, 0, none⟩) 1 c) (hl : l.length + 1 ≤ 1000000)
    (h : ∀ v' w', StrsOwn w' B v' (l ++ [b]) → Below B w0 w' → wpList Try.prog ops Q rest (a.put o.dst v') w') :
    wpList Try.prog ops Q (o :: rest) a (wr.alloc (.cells #[.string b] 9)) :=
  wpList_append_strs hgd s x ho v l hs (World.ownsRow.alloc hown _) (hb.alloc hB _) (by simp; omega) [b] wr.heap.size 0 1 c rfl hx (fun i hi => by
    obtain rfl : i = 0 := by omega
    rw [World.cell?_alloc_at _ _ _ _ rfl]; rfl) hl h
theorem sizes_app {L : List ByteArray} {m : Nat} {s : ByteArray} (h : ∀ x ∈ L, x.size = m) (hs : s.size = m) : ∀ x ∈ L ++ [s], x.size = m := by
  intro x hx
  rw [List.mem_append] at hx
  rcases hx with hx | hx
  · exact h x hx
  · simp at hx; subst hx; exact hs
theorem units_of {L : List ByteArray} {m : Nat} (hm : m ≤ 256) (h : ∀ x ∈ L, x.size = m) (h1 : 1 ≤ L.length) (h8 : L.length ≤ 8) : Units L m :=
  ⟨h1, h8, hm, fun i hi => by rw [List.getD_eq_getElem?_getD, List.getElem?_eq_getElem hi]; exact h _ (List.getElem_mem hi)⟩
theorem walk (a0 : Option Addr) (len0 cap0 : Nat) (z0 : List Int) (a1 : Option Addr) (len1 cap1 : Nat) (z1 : List Int) (w : World) (w0 : IsRow .u8 w a0 len0 cap0 z0) (w1 : IsRow .u8 w a1 len1 cap1 z1) :
    Calls Try.prog 3 #[.slice a0 len0 cap0, .slice a1 len1 cap1] w fun e w' => e = .returned (.bool true) ∧ Below w.heap.size w w' := by
  have b0 := w0.len
  have b1 := w1.len
  by_cases hl : len0 ≤ 1048576 ∧ len1 ≤ 1048576
  · obtain ⟨hl0, hl1⟩ := hl
    have hc0 := w0.code hl0
    have hc1 := w1.code hl1
    have HC := Lib.hid hc0
    have HM := Lib.hid hc1
    obtain ⟨cd, hcd⟩ : ∃ v, v = Value.slice a0 len0 cap0 := ⟨_, rfl⟩
    obtain ⟨mo, hmo⟩ : ∃ v, v = Value.slice a1 len1 cap1 := ⟨_, rfl⟩
    have HCD := Lib.hid hcd
    have HMO := Lib.hid hmo
    rw [← hcd] at HC
    rw [← hmo] at HM
    have HX := Lib.hid (show ∀ W, CodeIs W w.heap.size mo → Calls Try.prog 5 #[mo, .int .i64 0, .int .i64 8] W (AtPost 8 W) from fun W h => b10At_any _ _ 0 8 W h (by omega) (by omega) (by omega))
    have HY := Lib.hid (show ∀ W (n : Nat), CodeIs W w.heap.size mo → 1 ≤ n → n ≤ 8 → Calls Try.prog 5 #[mo, .int .i64 1, .int .i64 (n : Int)] W (AtPost n W) from fun W n h h1 h8 => b10At_len _ _ 1 n W h (by omega) h1 h8)
    have HD := Lib.hid (show ∀ W (k : Nat), CodeIs W w.heap.size cd → w.heap.size ≤ W.heap.size → k ≤ 8 → Calls Try.prog 6 #[cd, .int .i64 (10 * (k : Int)), .int .i64 9] W (DataPost 9 W) from fun W k h hz hk => by
      have := b10Data_any w.heap.size cd (10 * k) 9 W h hz (by omega) (by omega)
      rw [show ((10 * k : Nat) : Int) = 10 * (k : Int) by omega] at this
      exact this)
    have HN := Lib.hid (show ∀ W, CodeIs W w.heap.size mo → w.heap.size ≤ W.heap.size → Calls Try.prog 6 #[mo, .int .i64 2, .int .i64 9] W (DataPost 9 W) from fun W h hz => b10Data_any w.heap.size mo 2 9 W h hz (by omega) (by omega))
    have HL := Lib.hid (show Calls Try.prog 4 #[cd, mo] w fun e w' => e = .returned (.bool false) ∧ w = w' by rw [hcd, hmo]; exact long_no _ _ _ _ _ _ _ hl0 hl1)
    rw [← hcd, ← hmo]
    clear w0 w1 hc0 hc1 hcd hmo
    go_enter Try.func3, Try.ntmps3
    go_wp2_with fail
    refine HL.out.mono ?_
    rintro e w' ⟨rfl, rfl⟩
    go_wp2_with fail
    refine (HX.out _ (HM.out.keep fun b hb => Below.heap_alloc w _ b hb)).mono ?_
    rintro e w' ⟨x, rfl, hx0, hx1, rfl⟩
    obtain ⟨n, rfl⟩ : ∃ n : Nat, x = (n : Int) := ⟨x.toNat, by omega⟩
    have o0 := StrsOwn.made w (Nat.le_refl _)
    have hb0 := (Below.refl w.heap.size w).alloc (Nat.le_refl _) (.cells #[] 9)
    generalize w.alloc (.cells #[] 9) = w1 at *
    have hn7 : n ≤ 7 := by omega
    clear hx0 hx1 HX HL
    go_wp2_with fail
    go_loopw [5, 6] (fun u i wr => ∃ (k : Nat) (L : List ByteArray), i = .int .i64 k ∧ L.length + k = 1 + n ∧ (∀ s ∈ L, s.size = 9) ∧ StrsOwn wr w.heap.size u L ∧ Below w.heap.size w wr) (fun _ i _ => (intOf i).toNat)
    case atStart => exact ⟨1 + n, [], by go_num, by simp, fun s hs => (by cases hs), o0, hb0⟩
    case round =>
      clear o0 hb0
      obtain ⟨k, L, rfl, hk, hs9, own, hb⟩ := hrel
      have hz := hb.size
      have H9 := Lib.hid hs9
      clear hs9
      by_cases hk0 : 0 < k
      · have hki : (0 : Int) < (k : Int) := by omega
        have hk8 : (k : Int) ≤ 8 := by omega
        have hcc := HC.out.keep (w' := wr) fun b hbl => hb.block b hbl
        go_wp2_with (first
          | (go_at_call 6; refine (HD.out _ k hcc hz (by omega)).mono ?_; rintro e w' ⟨s, rfl, hs, hb2⟩; have own2 := own.later hb2 (Nat.le_refl _); have hb3 := hb.trans (hb2.mono hz))
          | (at_builtin; refine wpList_append_str rfl _ _ rfl _ L rfl own2 hb3 hb3.size _ _ rfl (by omega) ?_; intro v' w'' own3 hb4; clear own own2 hb hb2 hb3))
        go_roundw
        case rel => exact ⟨k - 1, _, by go_num, by simp; omega, sizes_app H9.out hs, own3, hb4⟩
        case measure => simp [intOf]; omega
      · obtain rfl : k = 0 := by omega
        have hU := units_of (m := 9) (by omega) H9.out (by omega) (by omega)
        obtain ⟨N, hN⟩ : ∃ N, N = L.length := ⟨_, rfl⟩
        have HLN := Lib.hid hN.symm
        have hN1 : 1 ≤ N := by omega
        have hN8 : N ≤ 8 := by omega
        have hbig : ∀ i, i < L.length → (L.getD i ByteArray.empty).size ≤ 9223372036854775807 := fun i hi => by rw [hU.2.2.2 i hi]; omega
        have hVE : VsEnds L (sumS L 9) true := .inl ⟨9, hU, .inl ⟨rfl, rfl⟩⟩
        have HP := Lib.hid (fun (W : World) (v : Value) (h : StrsIn W v L) => implParOf_any v L (sumS L 9) 0 W h hbig (.inl ⟨9, hU, rfl, rfl⟩))
        have HV := Lib.hid (fun (W : World) (v : Value) (h : StrsIn W v L) => implVS_any v L (sumS L 9) true W h hbig hVE)
        have HU := Lib.hid hU
        obtain ⟨P, hP⟩ : ∃ P, P = sumS L 9 := ⟨_, rfl⟩
        have HPE := Lib.hid hP
        have hP9 : P.size = 9 := by rw [hP, sumS_size]
        rw [← hP] at HP HV
        obtain ⟨g, cp, rfl, hcp, hcm, hgB, hgl, own2⟩ := StrsOwn.some_ (n := N) (show StrsOwn wr w.heap.size _ ([] ++ L) from own) hN.symm (by omega)
        clear own hbig hVE hU hk hk0 hN hP
        have HRd := Lib.hid own2.reads
        have HCell := Lib.hid (fun j (hj : j < N) => own2.cell HLN.out hj)
        clear own2
        go_wp2_with fail
        refine (HP.out _ _ HRd.out).mono ?_
        rintro e w1 ⟨rfl, c1⟩
        go_wp2_with fail
        refine (HV.out _ _ (HRd.out.below c1 (Nat.le_refl _))).mono ?_
        rintro e w2 ⟨rfl, c2⟩
        have C2 := c1.trans (c2.mono c1.size)
        clear c1 c2
        go_wp2_with fail
        refine (HY.out _ N (HM.out.keep fun b hbl => (hb.trans (C2.mono hz)).block b hbl) hN1 hN8).mono ?_
        rintro e w' ⟨x, rfl, hx0, hx1, rfl⟩
        obtain ⟨k, rfl⟩ : ∃ k : Nat, x = (k : Int) := ⟨x.toNat, by omega⟩
        have hkN : k < N := by omega
        have hki : (k : Int) < (N : Int) := by omega
        clear hx0 hx1 HY HV
        obtain ⟨U, hUe⟩ : ∃ U, U = L.getD k ByteArray.empty := ⟨_, rfl⟩
        have hcu := HCell.out k hkN
        rw [← hUe] at hcu
        have HUE := Lib.hid hUe
        have hlk : k < L.length := by rw [HLN.out]; exact hkN
        have HR := Lib.hid (fun (W : World) (v : Value) (h : StrsIn W v (L.set k ⟨#[]⟩)) => implReb_any v (L.set k ⟨#[]⟩) P (k : Int) U 0 W h (big_set (M := 9223372036854775807) (fun i hi => by rw [HU.out.2.2.2 i hi]; omega) (by show 0 ≤ _; omega)) (by omega) (by rw [List.length_set, HLN.out]; omega) (.inr ⟨k, rfl, by rw [List.length_set]; exact hlk, .inr ⟨by rw [List.length_set, HLN.out]; omega, by rw [set_set_]; exact .inl ⟨9, HU.out.set_ hP9, by rw [HUE.out, HPE.out]; exact (lost_back HU.out hlk).symm, rfl⟩⟩⟩))
        clear hUe hlk
        go_wp2_with (with_reducible show wpList _ _ _ (⟨some 53, _, _, _, _, _⟩ :: _) _ _; go_must (refine wpList_append_strs rfl _ _ rfl _ _ rfl (StrsOwn.made w2 C2.size) (C2.alloc C2.size _) (by have := C2.size; simp; omega) L g 0 N cp HLN.out rfl (fun i hi => (World.cell?_alloc_lt w2 _ _ (Nat.lt_of_lt_of_le hgl C2.size)).trans ((C2.cell (p := ⟨g, 0 + i, none⟩) hgl).trans (by rw [Nat.zero_add]; exact HCell.out i hi))) (by simp; omega) ?_; intro v1 w3 own1 c3; obtain ⟨g', cp', rfl, q1, q2, q3, q4, own2⟩ := own1.some_ HLN.out (by omega); have cl := own2.cell (j := k) HLN.out hkN; have fl := own2.free HLN.out k; have o4 := own2.stored HLN.out k ⟨#[]⟩; have c4 := c3.setCell (p := ⟨g', k, none⟩) q3 (.string ⟨#[]⟩); have hq4 : g' < (w3.setCell ⟨g', k, none⟩ (.string ⟨#[]⟩)).heap.size := (by have := q4; simpa using this); clear own1 own2))
        clear c3 cl fl q4
        generalize w3.setCell ⟨g', k, none⟩ (.string ⟨#[]⟩) = w4 at *
        refine (HR.out _ _ o4.reads).mono ?_
        rintro e w5 ⟨rfl, c5⟩
        have C5 := c4.trans (c5.mono c4.size)
        have o5 := o4.later c5 (Nat.le_refl _)
        have q5 : g' < w5.heap.size := Nat.lt_of_lt_of_le hq4 c5.size
        clear c4 o4 C2 c5 hq4 HR
        go_wp2_with fail
        refine (HN.out _ (HM.out.keep fun b hbl => (hb.trans (C5.mono hz)).block b hbl) (Nat.le_trans hz C5.size)).mono ?_
        rintro e w6 ⟨s, rfl, hs9, c6⟩
        have C6 := C5.trans (c6.mono C5.size)
        have o6 := o5.later c6 (Nat.le_refl _)
        have q6 : g' < w6.heap.size := Nat.lt_of_lt_of_le q5 c6.size
        have hlk : k < L.length := by rw [HLN.out]; exact hkN
        have hU9 : U.size = 9 := by rw [HUE.out]; exact HU.out.2.2.2 k hlk
        obtain ⟨Q, hQ⟩ : ∃ Q, Q = sumS (L.set k s) 9 := ⟨_, rfl⟩
        have HQ := Lib.hid (fun (W : World) => implUpd_any P U s Q 0 W (by omega) (by omega) (by omega) (.inl ⟨9, three_units (by omega) hP9 hU9 hs9, by rw [hQ, HUE.out, HPE.out]; exact (set_now s hlk).symm, rfl⟩))
        have HV := Lib.hid (fun (W : World) (v : Value) (h : StrsIn W v (L.set k s)) => implVS_any v (L.set k s) Q true W h (big_set (M := 9223372036854775807) (fun i hi => by rw [HU.out.2.2.2 i hi]; omega) (by omega)) (.inl ⟨9, HU.out.set_ hs9, .inl ⟨hQ.symm, rfl⟩⟩))
        have hcu6 := (C6.cell (p := ⟨g, k, none⟩) hgl).trans hcu
        have HO := Lib.hid o6
        clear C5 o5 q5 c6 hlk hQ o6
        go_wp2_with fail
        refine (HQ.out _).mono ?_
        rintro e w7 ⟨rfl, c7⟩
        have C7 := C6.trans (c7.mono C6.size)
        have o7 := HO.out.later c7 (Nat.le_refl _)
        have hlen : (L.set k ⟨#[]⟩).length = N := by rw [List.length_set]; exact HLN.out
        have cl := o7.cell (j := k) hlen hkN
        have fl := o7.free hlen k
        have o8 := o7.stored hlen k s
        rw [set_set_] at o8
        have c8 := C7.setCell (p := ⟨g', k, none⟩) q3 (.string s)
        have HO8 := Lib.hid o8.reads
        have hcu8 := (c8.cell (p := ⟨g, k, none⟩) hgl).trans hcu
        have hq := str_same (rfl : U = U)
        clear hlen C6 C7 o7 o8 c7 hcu6 hcu q6 HO
        go_wp2_with fail
        refine (HV.out _ _ HO8.out).mono ?_
        rintro e w9 ⟨rfl, c9⟩
        go_wp2
        go_ret
        exact ⟨rfl, hb.trans ((c8.trans (c9.mono c8.size)).mono hz)⟩
  · go_enter Try.func3, Try.ntmps3
    go_wp2_with fail
    refine (long_yes _ _ _ _ _ _ _ b0 b1 hl).mono ?_
    rintro e w' ⟨rfl, rfl⟩
    go_wp2
    go_ret
    exact ⟨rfl, Below.refl _ _⟩

theorem own : ownKnob Try.prog.godebug = none := by kernel_rfl
theorem laidOut : laidOutB Try.prog = true := by kernel_rfl
set_option maxRecDepth 100000 in
theorem lifted (os : Os) (started : os.Started) (H : Type) (enc : TypeId × Value → H) :
    ReturnsInHanded {} Try.checked os 3 .any (Rows.fnParitySpec.pre6 enc Try.prog Try.f3 Rows.fnParityRow.domain false) (Rows.fnParitySpec.post enc Try.prog Try.f3 false true false false) := by
  refine returnsInHanded_of_change (C := Try.checked) own started (by kernel_rfl) Try.func3
    (ChangeSpec.witness6 (enc := enc) (C := Try.checked) false ⟨#[], #[.slice none 0 0, .slice none 0 0], []⟩ 8 (by kernel_rfl) (by kernel_rfl) (by kernel_rfl) (by kernel_rfl)) ?_
  intro W base args ds gs before hval0 hW hcnd _
  have hval : ∀ (j : Nat) t v, Try.f3.params[j]? = some t → args[j]? = some v → Value.okWide Try.prog W .any base t v := hval0
  have hW' := hW
  obtain ⟨p, q, hA0, hV, rfl, hfz, hnd⟩ := hW
  have hA : DataW.TrodAll enc Try.prog W 0 (fun _ => true) true Try.f3.params.toList args.toList ds p := hA0
  rw [Try.params3] at hA hval
  obtain ⟨v0, vs0, d0, ds0, p0, q0, hargs, rfl, rfl, h0, r0⟩ := trodAll_cons hA
  obtain ⟨v1, vs1, d1, ds1, p1, q1, rfl, rfl, rfl, h1, r1⟩ := trodAll_cons r0
  obtain ⟨rfl, rfl, rfl⟩ := trodAll_nil r1
  obtain rfl : args = #[v0, v1] := by cases args; simp_all
  obtain ⟨rfl, rfl⟩ := trodVars_none hV
  obtain ⟨a0, len0, cap0, rfl⟩ := okWide_slice Try.underlying22 (hval 0 22 v0 rfl rfl)
  have k0 := h0
  have lt0 : ∀ x ∈ p0, x.block < W.heap.size := by obtain ⟨m, hm⟩ := k0; exact DataW.trod_lt m _ _ _ hm
  obtain ⟨z0, w0⟩ : ∃ zs, IsRow .u8 W a0 len0 cap0 zs := by
    obtain ⟨fuel, hf⟩ := h0
    rcases open_ints Try.underlying22 Try.underlying5 (by kernel_rfl) hf with ⟨hcs, _⟩ | ⟨x, l, c, zs, hcs, _, hl, hm, hz, _, hcell, hwz⟩
    · simp [Value.cells] at hcs
      obtain ⟨rfl, rfl, rfl⟩ := hcs
      exact ⟨[], .inl ⟨rfl, rfl, rfl, rfl⟩⟩
    · simp [Value.cells] at hcs
      obtain ⟨rfl, rfl, rfl⟩ := hcs
      exact ⟨zs, .inr ⟨_, rfl, hl, hm, by simpa using hz, hcell, hwz⟩⟩
  obtain ⟨a1, len1, cap1, rfl⟩ := okWide_slice Try.underlying22 (hval 1 22 v1 rfl rfl)
  have k1 := h1
  have lt1 : ∀ x ∈ p1, x.block < W.heap.size := by obtain ⟨m, hm⟩ := k1; exact DataW.trod_lt m _ _ _ hm
  obtain ⟨z1, w1⟩ : ∃ zs, IsRow .u8 W a1 len1 cap1 zs := by
    obtain ⟨fuel, hf⟩ := h1
    rcases open_ints Try.underlying22 Try.underlying5 (by kernel_rfl) hf with ⟨hcs, _⟩ | ⟨x, l, c, zs, hcs, _, hl, hm, hz, _, hcell, hwz⟩
    · simp [Value.cells] at hcs
      obtain ⟨rfl, rfl, rfl⟩ := hcs
      exact ⟨[], .inl ⟨rfl, rfl, rfl, rfl⟩⟩
    · simp [Value.cells] at hcs
      obtain ⟨rfl, rfl, rfl⟩ := hcs
      exact ⟨zs, .inr ⟨_, rfl, hl, hm, by simpa using hz, hcell, hwz⟩⟩
  clear hA0 hval0
  refine (walk a0 len0 cap0 z0 a1 len1 cap1 z1 W w0 w1).mono fun e W' ⟨he, bel⟩ => ?_
  subst he
  exact ⟨_, rfl, _, _, _, [], _, [], hW', trodAll_mk1 (shut_bool Try.underlying4 _), (trodAll_cons_mk (Below.trod laidOut (by kernel_rfl) (of_decide_eq_true (by kernel_rfl)) k0 bel lt0) (trodAll_cons_mk (Below.trod laidOut (by kernel_rfl) (of_decide_eq_true (by kernel_rfl)) k1 bel lt1) trodAll_mk0)), rfl, bel.frame _, fun h => by cases h⟩
theorem over : Rows.fnParityRow.holds Try.pinned (OpenSpec.ofChange Rows.fnParitySpec) :=
  OpenClaim.holds_of_wide 3 Try.f3 rfl rfl rfl rfl rfl rfl rfl ⟨rfl, rfl, rfl, rfl, rfl⟩ rfl rfl rfl rfl rfl (by kernel_rfl) Try.func3 (by kernel_rfl)
    (of_decide_eq_true (by kernel_rfl)) (by unfold Func.isWrapper; first | (rw [if_pos (by decide +kernel)]; kernel_rfl) | (rw [if_neg (by decide +kernel)]; exact ⟨rfl, rfl⟩))
    (fun os started H enc _ => lifted os started H enc)
theorem proved : Rows.FnParitySaid := over
#print axioms proved
end Go.Proofs.Ytegjppihopncoaa.fnParity
