/- The document's file system: names, one of which means a file. -/
import Derived.Test.YtijablmejjepaaaRG1
import Derived.BigQuiet
import Derived.DataElems
import Derived.Deep.QuietTactic
namespace Go.Proofs.Ytijablmejjepaaa
open Go.RowKit Go.Maps Go.Sort Go.WideAt Go.WideShapes

theorem flat_split (L : List (List UInt8 × Nat)) (n : Nat) : L.flatMap nm2 = (L.take n).flatMap nm2 ++ (L.drop n).flatMap nm2 := by
  rw [← List.flatMap_append, List.take_append_drop]
theorem less_bb : ∀ a b : List UInt8, Op.bytesLess a b = bytesBefore a b
  | [], [] => rfl
  | [], _ :: _ => rfl
  | _ :: _, [] => rfl
  | x :: a, y :: b => by
    have := less_bb a b
    simp only [Op.bytesLess, bytesBefore, this]
theorem ins_split (x : List UInt8 × Nat) : ∀ (l : List (List UInt8 × Nat)) (n : Nat), (∀ p ∈ l, p.1 ≠ x.1) → (∀ j (hj : j < l.length), j < n → bytesBefore l[j].1 x.1 = true) → (∀ hn : n < l.length, bytesBefore l[n].1 x.1 = false) → sfIns x l = l.take n ++ x :: l.drop n
  | [], n, _, _, _ => by simp [sfIns]
  | y :: r, 0, hne, _, h2 => by
    have h := h2 (by simp)
    simp only [List.getElem_cons_zero] at h
    have hb : bytesBefore x.1 y.1 = true := (bytes_total x.1 y.1 (fun e => hne y List.mem_cons_self e.symm)).resolve_right (by rw [h]; decide)
    simp [sfIns, hb]
  | y :: r, n + 1, hne, h1, h2 => by
    have hy := h1 0 (by simp) (by omega)
    simp only [List.getElem_cons_zero] at hy
    have hb : bytesBefore x.1 y.1 = false := by
      cases e : bytesBefore x.1 y.1 with
      | false => rfl
      | true => have := bytes_trans _ _ _ hy e; rw [bb_irrefl] at this; cases this
    have ih := ins_split x r n (fun p hp => hne p (List.mem_cons_of_mem _ hp)) (fun j hj hjn => by have := h1 (j + 1) (by simp; omega) (by omega); simpa using this) (fun hn => by have := h2 (by simp; omega); simpa using this)
    simp [sfIns, hb, ih]
theorem flat_len2 : ∀ l : List (List UInt8 × Nat), (l.flatMap nm2).length = l.length * 2
  | [] => rfl
  | a :: l => by rw [List.flatMap_cons, List.length_append, flat_len2 l]; simp [nm2]; omega
theorem elemN : Try.prog.elem 45 = 63 := by kernel_rfl
theorem sizeN2 (w : World) : (sizeOf 63).run Try.prog w = .ok 2 w := by
  simp [sizeOf]
  rfl
theorem nsl_upto (a : Option Addr) (n cap N : Nat) (h : N ≤ cap) (w : World) : (Instr.slice 45 (.slice a n cap) none (some (.int .i64 (N : Int))) none).run Try.prog w = .ok (.slice a N cap) w := by
  have ha : (Option.map (fun x : Addr => x.add 0) a) = a := by cases a <;> simp [add_zero']
  simp [Instr.slice, run_underlying Try.underlying45, Instr.sliceBounds, Instr.sliceBound, asIntOf, h, Result.andThen, ha]
set_option maxRecDepth 100000 in
theorem nsl_from (a : Option Addr) (n cap c : Nat) (h : c ≤ n) (w : World) : (Instr.slice 45 (.slice a n cap) (some (.int .i64 (c : Int))) none none).run Try.prog w = .ok (.slice (if cap = c then a else a.map (·.add (c * 2))) (n - c) (cap - c)) w := by
  rw [run_slice_l _ _ _ _ _ Try.underlying45 _ _ (by omega) (by omega), elemN, sizeN2]
  rfl
theorem src_upto {w : World} {a : Option Addr} {cap : Nat} {L : List (List UInt8 × Nat)} (h : NOwn w (.slice a L.length cap) L) {n : Nat} (hn : n ≤ L.length) : GSrc w 2 (.slice a n cap) (L.take n).length ((L.take n).flatMap nm2) := by
  have hl : (L.take n).length = n := by rw [List.length_take]; omega
  refine ⟨flat_len2 _, ?_⟩
  obtain ⟨a', cap', e, hc1, hc2, hc3, hc4⟩ := GOwn.form h
  simp only [Value.slice.injEq, true_and] at e
  obtain ⟨rfl, rfl⟩ := e
  cases a with
  | none => obtain ⟨h0, rfl⟩ := hc4 rfl; exact .inl ⟨by rw [show n = 0 by omega], by omega⟩
  | some q =>
    obtain ⟨q, rfl⟩ : ∃ b : Nat, q = ⟨b, 0, none⟩ := ⟨_, hc3 q rfl⟩
    refine .inr ⟨_, cap, by rw [hl], fun j u hj => GOwn.cells h (g := q) rfl j u ?_⟩
    rw [flat_split L n]
    obtain ⟨hlt, hu⟩ := List.getElem?_eq_some_iff.1 hj
    rw [List.getElem?_append_left hlt, hj]
theorem src_from {w : World} {a : Option Addr} {cap : Nat} {L : List (List UInt8 × Nat)} (h : NOwn w (.slice a L.length cap) L) {n : Nat} (hn : n ≤ L.length) : GSrc w 2 (.slice (if cap = n then a else a.map (·.add (n * 2))) (L.length - n) (cap - n)) (L.drop n).length ((L.drop n).flatMap nm2) := by
  have hl : (L.drop n).length = L.length - n := by rw [List.length_drop]
  refine ⟨flat_len2 _, ?_⟩
  obtain ⟨a', cap', e, hc1, hc2, hc3, hc4⟩ := GOwn.form h
  simp only [Value.slice.injEq, true_and] at e
  obtain ⟨rfl, rfl⟩ := e
  cases a with
  | none => obtain ⟨h0, rfl⟩ := hc4 rfl; exact .inl ⟨by rw [h0, show n = 0 by omega]; rfl, by omega⟩
  | some q =>
    obtain ⟨q, rfl⟩ : ∃ b : Nat, q = ⟨b, 0, none⟩ := ⟨_, hc3 q rfl⟩
    by_cases hcn : cap = n
    · rw [if_pos hcn]
      refine .inr ⟨_, cap - n, by rw [hl], fun j u hj => ?_⟩
      rw [List.drop_eq_nil_of_le (by omega)] at hj
      simp at hj
    · rw [if_neg hcn]
      refine .inr ⟨_, cap - n, by rw [hl]; rfl, fun j u hj => ?_⟩
      have := GOwn.cells h (g := q) rfl (n * 2 + j) u (by
        rw [flat_split L n, List.getElem?_append_right (by rw [flat_len2, List.length_take, Nat.min_eq_left hn]; omega), flat_len2, List.length_take, show n * 2 + j - min n L.length * 2 = j by rw [Nat.min_eq_left hn]; omega, hj])
      have ea : ((⟨q, 0, none⟩ : Addr).add (n * 2)).add j = (⟨q, 0, none⟩ : Addr).add (n * 2 + j) := Addr.add_add _ _ _
      rw [ea]
      exact this
theorem del_ne {s : List UInt8} {l : List (List UInt8 × Nat)} : ∀ p ∈ sfDel s l, p.1 ≠ s := fun p hp e => by
  unfold sfDel at hp
  have := (List.mem_filter.1 hp).2
  simp [e] at this
theorem below_dnR (w : World) (n : Nat) : Below w.heap.size w (w.drewN n) := ⟨rfl, rfl, rfl, Nat.le_refl _, fun _ _ => rfl⟩
set_option maxRecDepth 100000 in
set_option maxHeartbeats 4000000 in
theorem with_any {w : World} {v : Value} {l : List (List UInt8 × Nat)} (h : NOwn w v l) (nm : List UInt8) (N : Nat) (hl : l.length < 1000000) :
    Calls Try.prog 54 #[v, .agg #[.string ⟨nm.toArray⟩, .int .i64 (N : Int)]] w fun e w' => ∃ v', e = .returned v' ∧ NOwn w' v' (sfPut (nm, N) l) ∧ (∀ k, v'.ownBlock = some k → w.heap.size ≤ k ∧ k < w'.heap.size) ∧ Below w.heap.size w w' := by
  obtain ⟨w1, HW1⟩ := hid_ex (w.alloc (.cells #[.string ⟨nm.toArray⟩, .int .i64 (N : Int)] 63))
  have HB01 : Hid (Below w.heap.size w w1) := by rw [HW1.out]; exact (Below.refl _ _).alloc (Nat.le_refl _) _
  have hs01 : w1.heap.size = w.heap.size + 1 := by rw [HW1.out]; simp
  have HX : Hid (w1.heap[w.heap.size]? = some (.cells #[.string ⟨nm.toArray⟩, .int .i64 (N : Int)] 63)) := by rw [HW1.out]; exact heap_alloc_new _ _
  have HV1 : Hid (NOwn w1 v l) := h.keep (fun k hk => by
    obtain ⟨cur, hc⟩ := GOwn.block h hk
    exact HB01.out.block _ (Array.getElem?_eq_some_iff.1 hc).1)
  have c0 := cell_of HX.out 0 _ rfl
  have c1 := cell_of HX.out 1 _ rfl
  obtain ⟨a, cap, rfl, -⟩ := GOwn.form h
  clear h
  rw [HW1.out] at c0 c1
  go_enter Try.func54, Try.ntmps54
  go_wp2_with fail
  rw [← HW1.out]
  refine (without_any HV1.out nm hl).mono ?_
  rintro e w2 ⟨v2, rfl, hn2, hk2, hb2⟩
  obtain ⟨L, HL⟩ := hid_ex (sfDel nm l)
  rw [← HL.out] at hn2
  have HNE : Hid (∀ p ∈ L, p.1 ≠ nm) := by rw [HL.out]; exact del_ne
  have hLl : L.length < 1000000 := by have := sfDel_le nm l; rw [← HL.out] at this; omega
  obtain ⟨a2, cp2, rfl, g1, g2, g3, g4⟩ := GOwn.form hn2
  have HN2 : Hid (NOwn w2 (.slice a2 L.length cp2) L) := hn2
  have HK2 : Hid (∀ k, (Value.slice a2 L.length cp2).ownBlock = some k → w1.heap.size ≤ k ∧ k < w2.heap.size) := hk2
  have hs12 := hb2.size
  have HBw : Hid (Below w.heap.size w w2) := HB01.out.trans (hb2.mono (by omega))
  clear c0 c1
  have HX2 : Hid (w2.heap[w.heap.size]? = some (.cells #[.string ⟨nm.toArray⟩, .int .i64 (N : Int)] 63)) := (hb2.block _ (by omega)).trans HX.out
  have c0 := cell_of HX2.out 0 _ rfl
  have c1 := cell_of HX2.out 1 _ rfl
  clear hn2 hk2 hb2 HX
  unfold maxLen at g2
  go_wp2_with fail
  go_loopw [5] (fun i wr => ∃ k m : Nat, k ≤ L.length ∧ i = .int .i64 (k : Int) ∧ Hid (∀ j (hj : j < L.length), j < k → bytesBefore L[j].1 nm = true) ∧ wr = w2.drewN m) (fun i _ => L.length - (intOf i).toNat)
  case atStart => exact ⟨0, 0, by omega, rfl, (fun j hj h => by omega), rfl⟩
  case round =>
    obtain ⟨k, m, hk, rfl, HN, rfl⟩ := hrel
    obtain ⟨wr, HWR⟩ := hid_ex (w2.drewN m)
    rw [← HWR.out]
    have HDN : Hid (∀ n, wr.drewN n = w2.drewN (m + n)) := fun n => by rw [HWR.out]; exact World.drewN_drewN ..
    have z0 : wr.cell? ⟨w.heap.size, 0, none⟩ = some (.string ⟨nm.toArray⟩) := by rw [HWR.out]; exact c0
    by_cases hlt : k < L.length
    · have hil : decide ((k : Int) < (L.length : Int)) = true := by simp; omega
      cases a2 with
      | none => have := (g4 rfl).1; omega
      | some q =>
        obtain ⟨q, rfl⟩ : ∃ b : Nat, q = ⟨b, 0, none⟩ := ⟨_, g3 q rfl⟩
        obtain ⟨x0, _⟩ := NOwn.at HN2.out k hlt
        have HNC : Hid (bytesBefore L[k].1 nm = true → ∀ j (hj : j < L.length), j < k + 1 → bytesBefore L[j].1 nm = true) := fun h2 j hj hjk => by
          rcases Nat.lt_or_ge j k with h | h
          · exact HN.out j hj h
          · have : j = k := by omega
            subst this; exact h2
        have HND : Hid (bytesBefore L[k].1 nm = false → ∀ hn : k < L.length, bytesBefore L[k].1 nm = false) := fun h _ => h
        obtain ⟨P, HP⟩ := hid_ex L[k]
        rw [← HP.out] at x0 HNC HND
        obtain ⟨pn, pk⟩ := P
        simp only at x0 HNC HND
        have q0 : wr.cell? ⟨q, k * 2, none⟩ = some (.string ⟨pn.toArray⟩) := by rw [HWR.out]; exact x0
        clear x0
        by_cases hle0 : bytesBefore pn nm = true
        · have hle : Op.bytesLess pn nm = true := by rw [less_bb]; exact hle0
          have HN2' : Hid (∀ j (hj : j < L.length), j < k + 1 → bytesBefore L[j].1 nm = true) := HNC.out hle0
          clear HNC HND HP hle0
          go_wp2_with fail
          go_quiet (fail)
          have HD2 : Hid (wr.drewN nq = w2.drewN (m + nq)) := HDN.out nq
          clear q0 z0
          go_wp2_with fail
          go_roundw
          case rel => exact ⟨k + 1, m + nq, by omega, by go_num, HN2'.out, HD2.out⟩
          case measure => simp [intOf]; omega
        · have hle : Op.bytesLess pn nm = false := by rw [less_bb]; exact Bool.eq_false_iff.2 hle0
          have HNN : Hid (∀ hn : k < L.length, bytesBefore L[k].1 nm = false) := HND.out (Bool.eq_false_iff.2 hle0)
          clear HNC HND HP hle0
          obtain ⟨a2, Ha2⟩ := hid_ex (some (⟨q, 0, none⟩ : Addr))
          go_wp2_with fail
          go_quiet (fail)
          have HD2 : Hid (wr.drewN nq = w2.drewN (m + nq)) := HDN.out nq
          clear q0 z0
          rw [← Ha2.out] at HN2 HK2 ⊢
          have HL2 : Hid (sfPut (nm, N) l = L.take k ++ [(nm, N)] ++ L.drop k) := by
            show _ = _
            unfold sfPut
            rw [← HL.out, ins_split (nm, N) L k HNE.out HN.out HNN.out]
            simp
          obtain ⟨w5, HW5⟩ := hid_ex (w2.drewN (m + nq))
          have HB25 : Hid (Below w2.heap.size w2 w5) := by rw [HW5.out]; exact below_dnR _ _
          rw [HD2.out, ← HW5.out]
          clear HD2
          have hs25 : w2.heap.size = w5.heap.size := by rw [HW5.out]; rfl
          have d0 : w5.cell? ⟨w.heap.size, 0, none⟩ = some (.string ⟨nm.toArray⟩) := by rw [HW5.out]; exact c0
          have d1 : w5.cell? ⟨w.heap.size, 1, none⟩ = some (.int .i64 (N : Int)) := by rw [HW5.out]; exact c1
          have HN5 : Hid (NOwn w5 (.slice a2 L.length cp2) L) := HN2.out.keep (fun b hb => by rw [HW5.out]; rfl)
          clear HW5
          have hs1 : ∀ W, (Instr.slice 45 (.slice a2 L.length cp2) none (some (.int .i64 (k : Int))) none).run Try.prog W = .ok (.slice a2 k cp2) W := fun W => nsl_upto _ _ _ _ (by omega) W
          have hlk : (L.take k).length = k := by rw [List.length_take]; omega
          obtain ⟨v6, w6, hrun1, hn6, hgr1, hloc1⟩ := run_appN (w := w5) 45 (.slice none 0 0) (.slice a2 k cp2) [] (L.take k) (GOwn.nil _ _ _) (src_upto HN5.out hk) (by simp only [List.length_nil, hlk]; omega)
          rw [List.nil_append] at hn6
          obtain ⟨o6, p6, e6, -⟩ := GOwn.form hn6
          rw [hlk] at e6
          subst e6
          have HB56 : Hid (Below w5.heap.size w5 w6) := (Below.refl _ _).grown hgr1 (Nat.le_refl _) (fun b hb => by simp [Value.ownBlock] at hb)
          have hs56 := HB56.out.size
          have hk6 : ∀ b, (Value.slice o6 k p6).ownBlock = some b → w5.heap.size ≤ b ∧ b < w6.heap.size := fun b hb => by
            rcases hloc1 b hb with q | q
            · simp [Value.ownBlock] at q
            · exact q
          have f0 : w6.cell? ⟨w.heap.size, 0, none⟩ = some (.string ⟨nm.toArray⟩) := (HB56.out.cell (p := ⟨w.heap.size, 0, none⟩) (by show w.heap.size < _; omega)).trans d0
          have f1 : w6.cell? ⟨w.heap.size, 1, none⟩ = some (.int .i64 (N : Int)) := (HB56.out.cell (p := ⟨w.heap.size, 1, none⟩) (by show w.heap.size < _; omega)).trans d1
          obtain ⟨w7, HW7⟩ := hid_ex (w6.alloc (.cells #[.string ⟨nm.toArray⟩, .int .i64 (N : Int)] 63))
          have hn7 : NOwn w7 (.slice o6 k p6) (L.take k) := by rw [HW7.out]; exact hn6.keep (fun b hb => Below.heap_alloc _ _ _ (hk6 b hb).2)
          have hs67 : w7.heap.size = w6.heap.size + 1 := by rw [HW7.out]; simp
          obtain ⟨v8, w8, hrun2, hn8, hgr2, hloc2⟩ := run_appN (w := w7) 45 (.slice o6 k p6) (.slice (some ⟨w6.heap.size, 0, none⟩) 1 1) (L.take k) [(nm, N)] hn7 (by
            refine ⟨rfl, .inr ⟨_, _, rfl, fun i u hi => ?_⟩⟩
            have hb4 := heap_alloc_new w6 (.cells #[.string ⟨nm.toArray⟩, .int .i64 (N : Int)] 63)
            rw [← HW7.out] at hb4
            match i, hi with
            | 0, hi => simp [nm2] at hi; subst hi; exact cell_of hb4 0 _ rfl
            | 1, hi => simp [nm2] at hi; subst hi; exact cell_of hb4 1 _ rfl) (by rw [hlk]; simp only [List.length_singleton]; omega)
          have HB57 : Hid (Below w5.heap.size w5 w7) := by rw [HW7.out]; exact HB56.out.alloc (by omega) _
          have HB58 : Hid (Below w5.heap.size w5 w8) := HB57.out.grown hgr2 (by omega) (fun b hb => (hk6 b hb).1)
          have hs78 := hgr2.size
          have hk8 : ∀ b, v8.ownBlock = some b → w5.heap.size ≤ b ∧ b < w8.heap.size := fun b hb => by
            rcases hloc2 b hb with q | q
            · have := hk6 b q; omega
            · omega
          have hl8 : (L.take k ++ [(nm, N)]).length = k + 1 := by rw [List.length_append, hlk]; rfl
          obtain ⟨o8, p8, e8, -⟩ := GOwn.form hn8
          rw [hl8] at e8
          subst e8
          have hn58 : NOwn w8 (.slice a2 L.length cp2) L := HN5.out.keep (fun b hb => HB58.out.block _ (by have := HK2.out b hb; omega))
          have hsf := nsl_from a2 L.length cp2 k hk
          have hsr := src_from hn58 (n := k) hk
          obtain ⟨a9, H9⟩ := hid_ex (if cp2 = k then a2 else a2.map (·.add (k * 2)))
          rw [← H9.out] at hsf hsr
          obtain ⟨n9, Hn9⟩ := hid_ex (L.length - k)
          rw [← Hn9.out] at hsf hsr
          obtain ⟨c9, Hc9⟩ := hid_ex (cp2 - k)
          rw [← Hc9.out] at hsf hsr
          obtain ⟨v9, w9, hrun3, hn9, hgr3, hloc3⟩ := run_appN (w := w8) 45 (.slice o8 (k + 1) p8) (.slice a9 n9 c9) (L.take k ++ [(nm, N)]) (L.drop k) hn8 hsr (by rw [hl8, List.length_drop]; omega)
          have HEND : Hid (NOwn w9 v9 (sfPut (nm, N) l) ∧ (∀ b, v9.ownBlock = some b → w.heap.size ≤ b ∧ b < w9.heap.size) ∧ Below w.heap.size w w9) := by
            have hs89 := hgr3.size
            refine ⟨by rw [HL2.out]; exact hn9, fun b hb => ?_, ?_⟩
            · rcases hloc3 b hb with q | q
              · have := hk8 b q; omega
              · omega
            · have h1 : Below w5.heap.size w5 w9 := HB58.out.grown hgr3 HB58.out.size (fun b hb => (hk8 b hb).1)
              exact HBw.out.trans ((HB25.out.trans (h1.mono (by omega))).mono (by omega))
          clear hn6 hn7 hn8 hn9 hgr1 hgr2 hgr3 hloc1 hloc2 hloc3 hk6 hk8 hsr hn58 d0 d1 hlk hl8
          rw [HW7.out] at hrun2
          go_wp2_with (at_builtin; first | (refine wpList_app_runG rfl _ _ 45 45 rfl rfl _ _ _ rfl rfl hrun1 ?_; clear hrun1 hs1) | (refine wpList_app_runG rfl _ _ 45 45 rfl rfl _ _ _ rfl rfl hrun2 ?_; clear hrun2) | (refine wpList_app_runG rfl _ _ 45 45 rfl rfl _ _ _ rfl rfl hrun3 ?_; clear hrun3 hsf))
          go_ret
          exact ⟨_, rfl, HEND.out⟩
    · have hil : decide ((k : Int) < (L.length : Int)) = false := by simp; omega
      have HNN : Hid (∀ hn : k < L.length, bytesBefore L[k].1 nm = false) := fun hn => absurd hn hlt
      go_wp2_with fail
      go_quiet (fail)
      have HD2 : Hid (wr.drewN nq = w2.drewN (m + nq)) := HDN.out nq
      clear z0
      have HL2 : Hid (sfPut (nm, N) l = L.take k ++ [(nm, N)] ++ L.drop k) := by
        show _ = _
        unfold sfPut
        rw [← HL.out, ins_split (nm, N) L k HNE.out HN.out HNN.out]
        simp
      obtain ⟨w5, HW5⟩ := hid_ex (w2.drewN (m + nq))
      have HB25 : Hid (Below w2.heap.size w2 w5) := by rw [HW5.out]; exact below_dnR _ _
      rw [HD2.out, ← HW5.out]
      clear HD2
      have hs25 : w2.heap.size = w5.heap.size := by rw [HW5.out]; rfl
      have d0 : w5.cell? ⟨w.heap.size, 0, none⟩ = some (.string ⟨nm.toArray⟩) := by rw [HW5.out]; exact c0
      have d1 : w5.cell? ⟨w.heap.size, 1, none⟩ = some (.int .i64 (N : Int)) := by rw [HW5.out]; exact c1
      have HN5 : Hid (NOwn w5 (.slice a2 L.length cp2) L) := HN2.out.keep (fun b hb => by rw [HW5.out]; rfl)
      clear HW5
      have hs1 : ∀ W, (Instr.slice 45 (.slice a2 L.length cp2) none (some (.int .i64 (k : Int))) none).run Try.prog W = .ok (.slice a2 k cp2) W := fun W => nsl_upto _ _ _ _ (by omega) W
      have hlk : (L.take k).length = k := by rw [List.length_take]; omega
      obtain ⟨v6, w6, hrun1, hn6, hgr1, hloc1⟩ := run_appN (w := w5) 45 (.slice none 0 0) (.slice a2 k cp2) [] (L.take k) (GOwn.nil _ _ _) (src_upto HN5.out hk) (by simp only [List.length_nil, hlk]; omega)
      rw [List.nil_append] at hn6
      obtain ⟨o6, p6, e6, -⟩ := GOwn.form hn6
      rw [hlk] at e6
      subst e6
      have HB56 : Hid (Below w5.heap.size w5 w6) := (Below.refl _ _).grown hgr1 (Nat.le_refl _) (fun b hb => by simp [Value.ownBlock] at hb)
      have hs56 := HB56.out.size
      have hk6 : ∀ b, (Value.slice o6 k p6).ownBlock = some b → w5.heap.size ≤ b ∧ b < w6.heap.size := fun b hb => by
        rcases hloc1 b hb with q | q
        · simp [Value.ownBlock] at q
        · exact q
      have f0 : w6.cell? ⟨w.heap.size, 0, none⟩ = some (.string ⟨nm.toArray⟩) := (HB56.out.cell (p := ⟨w.heap.size, 0, none⟩) (by show w.heap.size < _; omega)).trans d0
      have f1 : w6.cell? ⟨w.heap.size, 1, none⟩ = some (.int .i64 (N : Int)) := (HB56.out.cell (p := ⟨w.heap.size, 1, none⟩) (by show w.heap.size < _; omega)).trans d1
      obtain ⟨w7, HW7⟩ := hid_ex (w6.alloc (.cells #[.string ⟨nm.toArray⟩, .int .i64 (N : Int)] 63))
      have hn7 : NOwn w7 (.slice o6 k p6) (L.take k) := by rw [HW7.out]; exact hn6.keep (fun b hb => Below.heap_alloc _ _ _ (hk6 b hb).2)
      have hs67 : w7.heap.size = w6.heap.size + 1 := by rw [HW7.out]; simp
      obtain ⟨v8, w8, hrun2, hn8, hgr2, hloc2⟩ := run_appN (w := w7) 45 (.slice o6 k p6) (.slice (some ⟨w6.heap.size, 0, none⟩) 1 1) (L.take k) [(nm, N)] hn7 (by
        refine ⟨rfl, .inr ⟨_, _, rfl, fun i u hi => ?_⟩⟩
        have hb4 := heap_alloc_new w6 (.cells #[.string ⟨nm.toArray⟩, .int .i64 (N : Int)] 63)
        rw [← HW7.out] at hb4
        match i, hi with
        | 0, hi => simp [nm2] at hi; subst hi; exact cell_of hb4 0 _ rfl
        | 1, hi => simp [nm2] at hi; subst hi; exact cell_of hb4 1 _ rfl) (by rw [hlk]; simp only [List.length_singleton]; omega)
      have HB57 : Hid (Below w5.heap.size w5 w7) := by rw [HW7.out]; exact HB56.out.alloc (by omega) _
      have HB58 : Hid (Below w5.heap.size w5 w8) := HB57.out.grown hgr2 (by omega) (fun b hb => (hk6 b hb).1)
      have hs78 := hgr2.size
      have hk8 : ∀ b, v8.ownBlock = some b → w5.heap.size ≤ b ∧ b < w8.heap.size := fun b hb => by
        rcases hloc2 b hb with q | q
        · have := hk6 b q; omega
        · omega
      have hl8 : (L.take k ++ [(nm, N)]).length = k + 1 := by rw [List.length_append, hlk]; rfl
      obtain ⟨o8, p8, e8, -⟩ := GOwn.form hn8
      rw [hl8] at e8
      subst e8
      have hn58 : NOwn w8 (.slice a2 L.length cp2) L := HN5.out.keep (fun b hb => HB58.out.block _ (by have := HK2.out b hb; omega))
      have hsf := nsl_from a2 L.length cp2 k hk
      have hsr := src_from hn58 (n := k) hk
      obtain ⟨a9, H9⟩ := hid_ex (if cp2 = k then a2 else a2.map (·.add (k * 2)))
      rw [← H9.out] at hsf hsr
      obtain ⟨n9, Hn9⟩ := hid_ex (L.length - k)
      rw [← Hn9.out] at hsf hsr
      obtain ⟨c9, Hc9⟩ := hid_ex (cp2 - k)
      rw [← Hc9.out] at hsf hsr
      obtain ⟨v9, w9, hrun3, hn9, hgr3, hloc3⟩ := run_appN (w := w8) 45 (.slice o8 (k + 1) p8) (.slice a9 n9 c9) (L.take k ++ [(nm, N)]) (L.drop k) hn8 hsr (by rw [hl8, List.length_drop]; omega)
      have HEND : Hid (NOwn w9 v9 (sfPut (nm, N) l) ∧ (∀ b, v9.ownBlock = some b → w.heap.size ≤ b ∧ b < w9.heap.size) ∧ Below w.heap.size w w9) := by
        have hs89 := hgr3.size
        refine ⟨by rw [HL2.out]; exact hn9, fun b hb => ?_, ?_⟩
        · rcases hloc3 b hb with q | q
          · have := hk8 b q; omega
          · omega
        · have h1 : Below w5.heap.size w5 w9 := HB58.out.grown hgr3 HB58.out.size (fun b hb => (hk8 b hb).1)
          exact HBw.out.trans ((HB25.out.trans (h1.mono (by omega))).mono (by omega))
      clear hn6 hn7 hn8 hn9 hgr1 hgr2 hgr3 hloc1 hloc2 hloc3 hk6 hk8 hsr hn58 d0 d1 hlk hl8
      rw [HW7.out] at hrun2
      go_wp2_with (at_builtin; first | (refine wpList_app_runG rfl _ _ 45 45 rfl rfl _ _ _ rfl rfl hrun1 ?_; clear hrun1 hs1) | (refine wpList_app_runG rfl _ _ 45 45 rfl rfl _ _ _ rfl rfl hrun2 ?_; clear hrun2) | (refine wpList_app_runG rfl _ _ 45 45 rfl rfl _ _ _ rfl rfl hrun3 ?_; clear hrun3 hsf))
      go_ret
      exact ⟨_, rfl, HEND.out⟩
end Go.Proofs.Ytijablmejjepaaa
