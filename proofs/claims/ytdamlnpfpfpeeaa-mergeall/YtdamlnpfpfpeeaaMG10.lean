/- One more part of a heap; the contract of New. -/
import Derived.Test.YtdamlnpfpfpeeaaMG9
import Derived.Laws.AppendOwn
namespace Go.Proofs.Ytdamlnpfpfpeeaa
open Go.RowKit

theorem infoPt : (Try.prog.info? 53).map (fun i => (i.zero, i.size, i.bytes)) = some (some (.agg #[.slice none 0 0, .int .i64 0]), 2, 32) := by kernel_rfl
theorem partsF_append : ∀ (rs ss : List (List En)) (i : Nat), partsF i (rs ++ ss) = partsF i rs ++ partsF (i + rs.length) ss
  | [], ss, i => by simp [partsF]
  | r :: rs, ss, i => by
    have ih := partsF_append rs ss (i + 1)
    rw [List.cons_append, partsF, partsF, ih, show i + 1 + rs.length = i + (r :: rs).length by simp; omega]
    split <;> rfl
theorem partsF_snoc {rs : List (List En)} {k : Nat} (hk : k < rs.length) : partsF 0 (rs.take (k + 1)) = partsF 0 (rs.take k) ++ (if rs[k] = [] then [] else [(rs[k], k)]) := by
  rw [List.take_add_one, List.getElem?_eq_getElem hk]
  show partsF 0 (rs.take k ++ [rs[k]]) = _
  rw [partsF_append]
  congr 1
  have : (rs.take k).length = k := by simp; omega
  rw [this, Nat.zero_add]
  unfold partsF
  split <;> rfl
theorem HM.mono {w : World} {lo hh hh' h : Nat} {P : List Pt} (H : HM w lo hh h P) (hl : hh ≤ hh') : HM w lo hh' h P := by
  obtain ⟨v, h1, h2, h3⟩ := H.hd
  exact ⟨H.h1, Nat.lt_of_lt_of_le H.h2 hl, ⟨v, h1, h2, fun k hk => Nat.lt_of_lt_of_le (h3 k hk) hl⟩, fun p hp => ⟨(H.pt p hp).g1, Nat.lt_of_lt_of_le (H.pt p hp).g2 hl, (H.pt p hp).n1, (H.pt p hp).n2, (H.pt p hp).n3, (H.pt p hp).ce, (H.pt p hp).ky⟩, H.nd, H.le⟩
theorem ptOk_of {w : World} {lo hh base g n : Nat} {xs : List Ev} {r : Nat} (h : EOwn w base (.slice (some ⟨g, 0, none⟩) n n) xs) (hb : lo ≤ base) (hn : xs.length = n) (h0 : 0 < n) (hg : g < hh) : PtOk w lo hh ⟨g, 0, n, xs, r⟩ := by
  obtain ⟨h1, h2⟩ := h
  have hlt := World.ownsRow.lt h1 g rfl
  rcases h1.2 with ⟨q, _⟩ | ⟨g', c', cur, q, hg', hw, hc, hx, hs, ht⟩
  · simp at q
  · have q' := q
    simp at q'
    obtain ⟨rfl, e, rfl⟩ := q'
    refine ⟨by show lo ≤ g; omega, hg, by show 0 < xs.length; omega, by show xs.length ≤ n; omega, by show n ≤ _; exact hx, ⟨cur, hw, fun j hj i hi => ?_⟩, fun x hx => (h2 x hx).mono hb⟩
    have hj' : j < xs.length := hj
    have h3 := flat7 xs j i hj' hi
    rw [← ht, List.getElem?_take, if_pos (by omega), Array.getElem?_toList] at h3
    show cur[0 + (7 * j + i)]? = _
    rw [Nat.zero_add, h3, List.getElem?_eq_getElem (show i < (c7 xs[j]).length from hi)]
    rfl
/-- A part is added. -/
theorem HM.add {w w1 : World} {lo h : Nat} {P : List Pt} {p : Pt} {a : Option Addr} {n cap g' cap' : Nat} {tmp : Obj} (H : HM w lo w.heap.size h P) (hv : w.heap[h]? = some (.cells #[.slice a n cap] 50)) (hrow : w.ownsRow lo 53 2 (.slice a n cap) n (P.flatMap p2))
    (hp : PtOk w lo w.heap.size p) (hnew : ∀ q ∈ P, q.g ≠ p.g) (hle : P.length < 100000)
    (ho : w1.ownsRow lo 53 2 (.slice (some ⟨g', 0, none⟩) (P.length + 1) cap') (P.length + 1) (P.flatMap p2 ++ [lv p, .int .i64 (p.r : Int)])) (hg : (w.alloc tmp).grownBy w1 (Value.slice a n cap).ownBlock) :
    HM (w1.setCell ⟨h, 0, none⟩ (.slice (some ⟨g', 0, none⟩) (P.length + 1) cap')) lo w1.heap.size h (P ++ [p]) ∧ Below lo w (w1.setCell ⟨h, 0, none⟩ (.slice (some ⟨g', 0, none⟩) (P.length + 1) cap')) ∧ (w1.setCell ⟨h, 0, none⟩ (.slice (some ⟨g', 0, none⟩) (P.length + 1) cap')).heap.size = w1.heap.size := by
  have hsz : w.heap.size ≤ w1.heap.size := by have := hg.size; simp at this; omega
  have hrb : ∀ k, (Value.slice a n cap).ownBlock = some k → ∃ cur, w.heap[k]? = some (.cells cur 53) := by
    intro k hk
    rcases hrow.2 with ⟨q, _⟩ | ⟨g0, c0, cur, q, _, hw, _⟩
    · simp at q; rw [q.1] at hk; simp [Value.ownBlock] at hk
    · simp at q
      rw [q.1] at hk
      simp [Value.ownBlock] at hk
      subst hk
      exact ⟨cur, hw⟩
  have hk1 : ∀ (k : Nat) (cs : Array Value) (T : TypeId) (fr : Nat × Nat), T ≠ 53 → w.heap[k]? = some (.cells cs T fr) → w1.heap[k]? = some (.cells cs T fr) := by
    intro k cs T fr hT hk
    have hkl := (Array.getElem?_eq_some_iff.1 hk).1
    rw [hg.block k (by simp; omega) (fun e => ?_)]
    · exact (Below.heap_alloc _ _ _ hkl).trans hk
    · obtain ⟨cur, hc⟩ := hrb k e.symm
      rw [hk] at hc
      simp at hc
      exact hT hc.2.1
  have hh1 := hk1 h _ _ _ (by decide) hv
  have hk2 : ∀ (k : Nat) (cs : Array Value) (T : TypeId) (fr : Nat × Nat), T ≠ 53 → T ≠ 50 → w.heap[k]? = some (.cells cs T fr) → (w1.setCell ⟨h, 0, none⟩ (.slice (some ⟨g', 0, none⟩) (P.length + 1) cap')).heap[k]? = some (.cells cs T fr) := by
    intro k cs T fr h1 h2 hk
    rw [Below.heap_setCell _ _ _ _ (typ_ne hk hv h2)]
    exact hk1 k cs T fr h1 hk
  have hpt : ∀ q, PtOk w lo w.heap.size q → PtOk (w1.setCell ⟨h, 0, none⟩ (.slice (some ⟨g', 0, none⟩) (P.length + 1) cap')) lo w1.heap.size q := by
    intro q hq
    obtain ⟨cur, hc1, hc2⟩ := hq.ce
    exact ⟨hq.g1, by have := hq.g2; omega, hq.n1, hq.n2, hq.n3, ⟨cur, hk2 _ _ _ _ (by decide) (by decide) hc1, hc2⟩, fun x hx => own_kp (hq.ky x hx) (fun k cs fr q => hk2 k cs _ fr (by decide) (by decide) q)⟩
  have hgl := World.ownsRow.lt ho g' rfl
  refine ⟨⟨H.h1, by have := H.h2; omega, ⟨.slice (some ⟨g', 0, none⟩) (P.length + 1) cap', ?_, ?_, fun k hk => ?_⟩, fun q hq => ?_, ?_, by simp; omega⟩, ?_, by simp [World.setCell]⟩
  · have := heap_setCell_same w1 h 0 _ _ (.slice (some ⟨g', 0, none⟩) (P.length + 1) cap') hh1
    simpa using this
  · rw [List.length_append, List.flatMap_append]
    obtain ⟨cur, hcur⟩ := row_block ho
    exact row_heap ho (Below.heap_setCell _ _ _ _ (typ_ne hcur hh1 (by decide)))
  · simp [Value.ownBlock] at hk
    omega
  · rcases List.mem_append.1 hq with hq | hq
    · exact hpt q (H.pt q hq)
    · obtain rfl : q = p := by simpa using hq
      exact hpt q hp
  · rw [List.map_append, List.nodup_append]
    refine ⟨H.nd, by simp, fun x hx y hy e => ?_⟩
    obtain ⟨q, hq, rfl⟩ := List.mem_map.1 hx
    obtain rfl : y = p.g := by simpa using hy
    exact hnew q hq e
  · refine Below.trans ?_ ((Below.refl _ _).setCell H.h1 _)
    have hlo : lo ≤ w.heap.size := by have := H.h1; have := H.h2; omega
    refine ((Below.refl lo w).alloc hlo tmp).grown hg (by simp; omega) (fun k hk => (World.ownsRow.lt hrow k hk).1)
theorem wp_app_run {w w' : World} {o : Oper} {a : Act} {K : Act → World → Prop} {Q : Exit → Act → World → Prop} (s x : Operand) (t ty : TypeId) (ho : o.op = .call { callee := .builtin .append, args := #[s, x], argTypes := #[t, t] }) (hty : o.type = ty) (v vx v' : Value) (hs : a.eval s = v) (hx : a.eval x = vx)
    (hrun : (Builtin.append_ #[t, t] ty #[v, vx]).run Try.prog w = .ok v' w') (h : K (a.put o.dst v') w') : o.wp Try.prog a w K Q := by
  subst hty
  unfold Oper.wp
  simp [execOp, ho, resolve, invoke, builtin, hs, hx, hrun, Result.andThen]
  exact h
theorem wpList_app_run {w w' : World} {ops : Array Oper} {rest : List Oper} {o : Oper} {a : Act} {Q : Exit → Act → World → Prop} (hgd : o.guard = none) (s x : Operand) (t ty : TypeId) (ho : o.op = .call { callee := .builtin .append, args := #[s, x], argTypes := #[t, t] }) (hty : o.type = ty) (v vx v' : Value) (hs : a.eval s = v) (hx : a.eval x = vx)
    (hrun : (Builtin.append_ #[t, t] ty #[v, vx]).run Try.prog w = .ok v' w') (h : wpList Try.prog ops Q rest (a.put o.dst v') w') : wpList Try.prog ops Q (o :: rest) a w :=
  wpList_plain hgd fun _ hK => wp_app_run s x t ty ho hty v vx v' hs hx hrun (hK _ _ h)
def NwPost (rs : List (List En)) (w : World) (e : Ending) (w' : World) : Prop :=
  Below w.heap.size w w' ∧ ((rowsF rs ≠ 0 ∧ e = .returned (.tuple #[.pointer none, .int .i64 (rowsF rs)])) ∨ (rowsF rs = 0 ∧ ∃ h hh, e = .returned (.tuple #[.pointer (some ⟨h, 0, none⟩), .int .i64 0]) ∧ HS w' w.heap.size hh h (seqF rs)))
/-- What the second loop of New keeps. -/
structure NwI (rs : List (List En)) (w : World) (h k : Nat) (P : List Pt) (wr : World) : Prop where
  p : P.map paP = partsF 0 (rs.take k)
  m : HM wr w.heap.size wr.heap.size h P
  b : Below w.heap.size w wr
theorem parts_len : ∀ (rs : List (List En)) (i : Nat), (partsF i rs).length ≤ rs.length
  | [], _ => Nat.le_refl _
  | r :: rs, i => by
    have := parts_len rs (i + 1)
    unfold partsF
    split
    · simp; omega
    · simp; omega
theorem rowsF_bad : ∀ {rs : List (List En)} {k : Nat} (hk : k < rs.length), (∀ j (hj : j < k), rowF (rs[j]'(by omega)) = 0) → rowF rs[k] ≠ 0 → rowsF rs = rowF rs[k]
  | r :: rs, 0, _, _, h => by
    have h' : rowF r ≠ 0 := h
    unfold rowsF; rw [if_neg h']; rfl
  | r :: rs, k + 1, hk, hj, h => by
    have h0 : rowF r = 0 := hj 0 (by omega)
    unfold rowsF
    rw [if_pos h0]
    exact rowsF_bad (rs := rs) (k := k) (by simpa using hk) (fun j hj2 => by have := hj (j + 1) (by omega); simpa using this) (by simpa using h)
theorem rReads_at {w : World} {rs : List (List En)} {b off n cap : Nat} (h : RReads w (.slice (some ⟨b, off, none⟩) n cap) rs) {k : Nat} (hk : k < rs.length) : ∃ ev, w.cell? ⟨b, off + k, none⟩ = some ev ∧ EReads w ev rs[k] := by
  obtain ⟨a, cap', hv, h1, h2, h3⟩ := h
  rcases h3 with rfl | ⟨b', off', h4, h5, h6⟩
  · simp at hk
  · simp at hv
    rw [h4] at hv
    simp at hv
    obtain ⟨⟨rfl, rfl⟩, _⟩ := hv
    exact h6 k hk
theorem rReads_some {w : World} {v : Value} {rs : List (List En)} (h : RReads w v rs) (h0 : 0 < rs.length) : ∃ b off cap, v = .slice (some ⟨b, off, none⟩) rs.length cap ∧ rs.length ≤ cap ∧ cap ≤ maxLen ∧ b < w.heap.size := by
  obtain ⟨a, cap, rfl, h1, h2, h3⟩ := h
  rcases h3 with rfl | ⟨b, off, rfl, h5, h6⟩
  · simp at h0
  · exact ⟨b, off, cap, rfl, h1, h2, h5⟩
set_option maxRecDepth 100000 in
set_option maxHeartbeats 4000000 in
theorem new_some (b off cap : Nat) (rs : List (List En)) (w : World) (hR : RReads w (.slice (some ⟨b, off, none⟩) rs.length cap) rs) (hl1 : rs.length ≤ 10000) (hl2 : ∀ r ∈ rs, r.length ≤ 100000) (hl3 : ∀ r ∈ rs, ∀ x ∈ r, x.1.length ≤ 100000) :
    Calls Try.prog 9 #[.slice (some ⟨b, off, none⟩) rs.length cap] w (NwPost rs w) := by
  have HR : Hid (RReads w (.slice (some ⟨b, off, none⟩) rs.length cap) rs) := hR
  have HL2 : Hid _ := hl2
  have HL3 : Hid _ := hl3
  clear hR hl2 hl3
  go_enter Try.func9, Try.ntmps9
  go_wp2_with fail
  go_loopw [13] (fun i wr => ∃ k : Nat, ∃ hk : k ≤ rs.length, i = .int .i64 (k : Int) ∧ Hid (∀ j (hj : j < k), rowF (rs[j]'(by omega)) = 0) ∧ Hid (Below w.heap.size w wr)) (fun i _ => rs.length - (intOf i).toNat)
  case atStart => exact ⟨0, by omega, rfl, fun j hj => by omega, Below.refl _ _⟩
  case round =>
    obtain ⟨k, hk, rfl, HJ, HB⟩ := hrel
    by_cases hlt : k < rs.length
    · obtain ⟨ev, hcv, hev⟩ := rReads_at (HR.out.below HB.out) hlt
      obtain ⟨ea, ec, hef, _⟩ := hev.form
      subst hef
      have HEV : Hid (EReads wr (.slice ea rs[k].length ec) rs[k]) := hev
      have HBAD : Hid (rowF rs[k] ≠ 0 → rowsF rs = rowF rs[k]) := rowsF_bad hlt HJ.out
      have HNJ : Hid (rowF rs[k] = 0 → ∀ j (hj : j < k + 1), rowF (rs[j]'(by omega)) = 0) := fun h0 j hj => by
        rcases Nat.lt_or_ge j k with h1 | h1
        · exact HJ.out j h1
        · obtain rfl : j = k := by omega
          exact h0
      clear hev
      obtain ⟨r, Hr⟩ := hid_ex rs[k]
      rw [← Hr.out] at HEV hcv HBAD HNJ
      go_wp2_with fail
      refine (isRow_any _ r _ HEV.out).mono ?_
      rintro e w1 ⟨rfl, hb1⟩
      have HB1 : Hid (Below w.heap.size w w1) := HB.out.trans (hb1.mono HB.out.size)
      clear hb1 hcv HEV
      by_cases h0 : rowF r = 0
      · have hb0 : (rowF r == 0) = true := by simp [h0]
        have HN := HNJ.out h0
        have HN' : Hid _ := HN
        clear HN h0 HBAD HNJ
        generalize rowF r = rr at *
        go_wp2_with fail
        go_roundw
        case rel => exact ⟨k + 1, by omega, by go_num, HN'.out, HB1⟩
        case measure => simp [intOf]; omega
      · have hb0 : (rowF r == 0) = false := by simp [h0]
        have HZ : Hid (rowsF rs = rowF r) := HBAD.out h0
        have H0 : Hid (rowF r ≠ 0) := h0
        clear h0 HBAD HNJ
        generalize rowF r = rr at *
        go_wp2_with fail
        go_ret2
        exact ⟨HB1.out, .inl ⟨by rw [HZ.out]; exact H0.out, by rw [HZ.out]; rfl⟩⟩
    · have HZ : Hid (rowsF rs = 0) := rowsF_ok.2 (fun r hr => by
        obtain ⟨j, hj, rfl⟩ := List.getElem_of_mem hr
        exact HJ.out j (by omega))
      have HI0 : Hid (NwI rs w wr.heap.size 0 [] (wr.alloc (.cells #[.slice none 0 0] 50))) := by
        refine ⟨rfl, ⟨HB.out.size, by simp, ⟨.slice none 0 0, heap_alloc_new _ _, World.ownsRow_nil _ _ _ _, fun k hk => by simp [Value.ownBlock] at hk⟩, fun p hp => (by cases hp), List.nodup_nil, by simp⟩, HB.out.alloc HB.out.size _⟩
      go_wp2_with fail
      clear HJ
      obtain ⟨hN, HhN⟩ := hid_ex wr.heap.size
      obtain ⟨wz, Hwz⟩ := hid_ex (wr.alloc (.cells #[.slice none 0 0] 50))
      rw [← HhN.out] at HI0 ⊢
      rw [← Hwz.out] at HI0 ⊢
      clear HhN Hwz HB hk hlt
      go_loopw [27] (fun i wq => ∃ (k : Nat) (P : List Pt), k ≤ rs.length ∧ i = .int .i64 (k : Int) ∧ Hid (NwI rs w hN k P wq)) (fun i _ => rs.length - (intOf i).toNat)
      case atStart => exact ⟨0, [], by omega, rfl, HI0⟩
      case round =>
        clear HI0
        obtain ⟨k, P, hk, rfl, HI⟩ := hrel
        by_cases hlt : k < rs.length
        · obtain ⟨ev, hcv, hev⟩ := rReads_at (HR.out.below HI.out.b) hlt
          obtain ⟨ea, ec, hef, _⟩ := hev.form
          subst hef
          have hrl := HL2.out rs[k] (List.getElem_mem hlt)
          have HRK : Hid _ := HL3.out rs[k] (List.getElem_mem hlt)
          have HEV : Hid (EReads wr (.slice ea rs[k].length ec) rs[k]) := hev
          have HSN : Hid (partsF 0 (rs.take (k + 1)) = partsF 0 (rs.take k) ++ (if rs[k] = [] then [] else [(rs[k], k)])) := partsF_snoc hlt
          clear hev
          obtain ⟨r, Hr⟩ := hid_ex rs[k]
          rw [← Hr.out] at HEV hcv HSN hrl HRK
          rcases Nat.eq_zero_or_pos r.length with h0 | h0
          · have HN : Hid (NwI rs w hN (k + 1) P wr) := ⟨by rw [HSN.out, if_pos (List.length_eq_zero_iff.1 h0), List.append_nil]; exact HI.out.p, HI.out.m, HI.out.b⟩
            go_wp2_with fail
            go_roundw
            case rel => exact ⟨k + 1, P, by omega, by go_num, HN⟩
            case measure => simp [intOf]; omega
          · obtain ⟨eb, eo, ec', hef, _⟩ := eReads_some HEV.out h0
            simp at hef
            obtain ⟨rfl, rfl⟩ := hef
            have hlenP : P.length < 100000 := by
              have h1 := congrArg List.length HI.out.p
              have h2 := parts_len (rs.take k) 0
              simp at h1 h2
              omega
            obtain ⟨a, cap0, e1, e2, e3, e4, e5⟩ := HI.out.m.arr
            have x1 := (cell_row e1 0 (by simp)).1
            simp only [List.getElem_toArray, List.getElem_cons_zero] at x1
            have hbh := (Array.getElem?_eq_some_iff.1 e1).1
            have E1 : Hid _ := e1
            have E2 : Hid _ := e2
            clear e1 e2 e5
            go_wp2_with fail
            refine wp_region_noPanic ?_
            refine wp_region_S 13 (fun _ => True) (fun w' => w'.cell? ⟨hN, 0, none⟩ = some (.slice a P.length cap0)) (by kernel_rfl) ?_ ?_ (fun hHeld => ?_)
            · trivial
            · exact x1
            refine wpAnyS_take (i := 0) (v := .pointer (some ⟨hN, 0, none⟩)) _ rfl (by kernel_rfl) (by kernel_rfl) (by kernel_rfl) (by kernel_rfl) (by kernel_rfl) rfl (fun _ _ _ h => h) (Or.inl ⟨by rfl, ?_⟩) hHeld (fun hHeld => ?_)
            · (intro w1 hSw; have hSw := hSw.1; (try dsimp only at hSw); go_simp)
            simp only [List.getElem_toArray, List.getElem_cons_zero, Act.put, List.setIfInBounds_toArray, List.set_cons_zero, List.set_cons_succ]
            refine wpAnyS_take (i := 1) (v := .pointer (some ⟨hN, 0, none⟩)) _ rfl (by kernel_rfl) (by kernel_rfl) (by kernel_rfl) (by kernel_rfl) (by kernel_rfl) rfl (fun _ _ _ h => h) (Or.inl ⟨by rfl, ?_⟩) hHeld (fun hHeld => ?_)
            · (intro w1 hSw; have hSw := hSw.1; (try dsimp only at hSw); go_simp)
            simp only [List.getElem_toArray, List.getElem_cons_succ, List.getElem_cons_zero, Act.put, List.setIfInBounds_toArray, List.set_cons_zero, List.set_cons_succ]
            refine wpAnyS_take (i := 2) (v := .pointer (some ⟨hN, 0, none⟩)) _ rfl (by kernel_rfl) (by kernel_rfl) (by kernel_rfl) (by kernel_rfl) (by kernel_rfl) rfl (fun _ _ _ h => h) (Or.inl ⟨by rfl, ?_⟩) hHeld (fun hHeld => ?_)
            · (intro w1 hSw; have hSw := hSw.1; (try dsimp only at hSw); go_simp)
            simp only [List.getElem_toArray, List.getElem_cons_succ, List.getElem_cons_zero, Act.put, List.setIfInBounds_toArray, List.set_cons_zero, List.set_cons_succ]
            refine wpAnyS_take (i := 3) (v := .pointer (some ⟨hN, 0, none⟩)) _ rfl (by kernel_rfl) (by kernel_rfl) (by kernel_rfl) (by kernel_rfl) (by kernel_rfl) rfl (fun _ _ _ h => h) (Or.inl ⟨by rfl, ?_⟩) hHeld (fun hHeld => ?_)
            · (intro w1 hSw; have hSw := hSw.1; (try dsimp only at hSw); go_simp)
            simp only [List.getElem_toArray, List.getElem_cons_succ, List.getElem_cons_zero, Act.put, List.setIfInBounds_toArray, List.set_cons_zero, List.set_cons_succ]
            refine wpAnyS_take (i := 4) (v := .slice a P.length cap0) true rfl (by kernel_rfl) (by kernel_rfl) (by kernel_rfl) (by kernel_rfl) (by kernel_rfl) (by kernel_rfl) (fun _ _ _ h => h) (Or.inl ⟨by rfl, ?_⟩) hHeld (fun hHeld => ?_)
            · (intro w1 hSw; have hSw2 := hSw.2 rfl; have hSw := hSw.1; (try dsimp only at hSw hSw2); go_simp)
            simp only [List.getElem_toArray, List.getElem_cons_succ, List.getElem_cons_zero, Act.put, List.setIfInBounds_toArray, List.set_cons_zero, List.set_cons_succ]
            refine wpAnyS_take (i := 5) (v := .slice (some ⟨eb, eo, none⟩) r.length ec) _ rfl (by kernel_rfl) (by kernel_rfl) (by kernel_rfl) (by kernel_rfl) (by kernel_rfl) rfl (fun _ _ _ h => h) (Or.inl ⟨by rfl, ?_⟩) hHeld (fun hHeld => ?_)
            · (intro w1 hSw; have hSw := hSw.1; (try dsimp only at hSw); go_simp)
            simp only [List.getElem_toArray, List.getElem_cons_succ, List.getElem_cons_zero, Act.put, List.setIfInBounds_toArray, List.set_cons_zero, List.set_cons_succ]
            refine wpAnyS_take (i := 7) (v := .int .i64 (k : Int)) _ rfl (by kernel_rfl) (by kernel_rfl) (by kernel_rfl) (by kernel_rfl) (by kernel_rfl) rfl (fun _ _ _ h => h) (Or.inl ⟨by rfl, ?_⟩) hHeld (fun hHeld => ?_)
            · (intro w1 hSw; have hSw := hSw.1; (try dsimp only at hSw); go_simp)
            simp only [List.getElem_toArray, List.getElem_cons_succ, List.getElem_cons_zero, Act.put, List.setIfInBounds_toArray, List.set_cons_zero, List.set_cons_succ]
            refine wpAnyS_ready (i := 6) (by kernel_rfl) rfl (fun K hK => ?_)
            go_simp
            refine (copied_some eb eo ec r _ (HEV.out.below (Below.refl _ _).drew) hrl HRK.out).mono ?_
            rintro e w3 ⟨g, xs, rfl, ho3, hm3, hb3⟩
            go_simp
            have hb3' : Below wr.heap.size wr w3 := (Below.refl wr.heap.size wr).drew.trans hb3
            refine hK.out _ _ ⟨?_, fun _ => ?_⟩ (fun hHeld => ?_)
            · trivial
            · exact (hb3'.cell (p := ⟨hN, 0, none⟩) hbh).trans x1
            clear hK K
            refine wpAnyS_take (i := 8) (v := .agg #[.slice (some ⟨g, 0, none⟩) r.length r.length, .int .i64 (k : Int)]) _ rfl (by kernel_rfl) (by kernel_rfl) (by kernel_rfl) (by kernel_rfl) (by kernel_rfl) rfl (fun _ _ _ h => h) (Or.inl ⟨by rfl, ?_⟩) hHeld (fun hHeld => ?_)
            · (intro w1 hSw; have hSw := hSw.1; (try dsimp only at hSw); go_simp)
            simp only [List.getElem_toArray, List.getElem_cons_succ, List.getElem_cons_zero, Act.put, List.setIfInBounds_toArray, List.set_cons_zero, List.set_cons_succ]
            refine wpAnyS_ready (i := 9) (by kernel_rfl) rfl (fun K hK => ?_)
            go_simp
            have hxl : xs.length = r.length := by have := congrArg List.length hm3; simpa using this
            have HM3 : Hid (HM w3 w.heap.size w3.heap.size hN P) := (HI.out.m.below hb3').mono hb3'.size
            have hrow3 := row_kp E2.out (Kp.of_below hb3')
            have hv3 : w3.heap[hN]? = some (.cells #[.slice a P.length cap0] 50) := (hb3'.block _ hbh).trans E1.out
            have hlo3 : w.heap.size ≤ w3.heap.size := Nat.le_trans HI.out.b.size hb3'.size
            obtain ⟨i0, hi, hz0, hz1, hz2⟩ := info_parts infoPt
            obtain ⟨v5, w5, hr5, hown5, hg5, _⟩ := run_append_own (P := Try.prog) (w3.alloc (.cells #[.slice (some ⟨g, 0, none⟩) r.length r.length, .int .i64 (k : Int)] 53)) w.heap.size 48 48 53 i0 (.agg #[.slice none 0 0, .int .i64 0]) 2 32 Try.underlying48 hi hz0 hz1 hz2 rfl (by decide) (.slice a P.length cap0) P.length (P.flatMap p2) (World.ownsRow.alloc hrow3 _) ⟨w3.heap.size, 0, none⟩ 1 1 [.slice (some ⟨g, 0, none⟩) r.length r.length, .int .i64 (k : Int)] rfl news2 (by intro u hu; simp at hu; rcases hu with rfl | rfl <;> rfl) (by unfold maxLen; omega) (by omega) (by simp; omega)
            obtain ⟨g5, cap5, hv5⟩ := Go.Joins.ownsRow_form hown5 (by omega)
            subst hv5
            have HADD : Hid _ := HM.add (p := ⟨g, 0, r.length, xs, k⟩) HM3.out hv3 hrow3 (ptOk_of ho3 HI.out.b.size hxl h0 (World.ownsRow.lt ho3.1 g rfl).2) (fun q hq e => by
              have h1 := (HI.out.m.pt q hq).g2
              have h2 := (World.ownsRow.lt ho3.1 g rfl).1
              have h3 : wr.drew.heap.size = wr.heap.size := rfl
              simp only at e
              omega) hlenP (by unfold lv; rw [hxl]; exact hown5) hg5
            have hh5 : w5.heap[hN]? = some (.cells #[.slice a P.length cap0] 50) := by
              rw [hg5.block hN (by simp; have := (Array.getElem?_eq_some_iff.1 hv3).1; omega) (fun e => ?_)]
              · exact (Below.heap_alloc _ _ _ (Array.getElem?_eq_some_iff.1 hv3).1).trans hv3
              · rcases hrow3.2 with ⟨q, _⟩ | ⟨g0, c0, cur, q, _, hw, _⟩
                · simp at q; rw [q.1] at e; simp [Value.ownBlock] at e
                · simp at q
                  rw [q.1] at e
                  simp [Value.ownBlock] at e
                  subst e
                  rw [hv3] at hw
                  simp at hw
            have x5 := (cell_row hh5 0 (by simp)).1
            have f5 := (cell_row hh5 0 (by simp)).2
            simp only [List.getElem_toArray, List.getElem_cons_zero] at x5
            have x4 : (w3.alloc (.cells #[.slice (some ⟨g, 0, none⟩) r.length r.length, .int .i64 (k : Int)] 53)).cell? ⟨hN, 0, none⟩ = some (.slice a P.length cap0) := (World.cell?_of_block (Below.heap_alloc _ _ _ (Array.getElem?_eq_some_iff.1 hv3).1)).trans ((hb3'.cell (p := ⟨hN, 0, none⟩) hbh).trans x1)
            have HNX : Hid (NwI rs w hN (k + 1) (P ++ [⟨g, 0, r.length, xs, k⟩]) (w5.setCell ⟨hN, 0, none⟩ (.slice (some ⟨g5, 0, none⟩) (P.length + 1) cap5))) := by
              obtain ⟨q1, q2, q3⟩ := HADD.out
              refine ⟨?_, by rw [q3]; exact q1, (HI.out.b.trans (hb3'.mono HI.out.b.size)).trans q2⟩
              rw [HSN.out, if_neg (fun e => by rw [e] at h0; simp at h0), List.map_append, HI.out.p]
              show _ ++ [(xs.map evE, k)] = _
              rw [hm3]
            clear HADD HM3 hrow3 hv3 hown5 hg5 hh5 hi hz0 hz1 hz2 ho3 hm3 hb3 hb3'
            refine hK.out _ _ ⟨?_, fun _ => ?_⟩ (fun hHeld => ?_)
            · trivial
            · exact x4
            clear hK K
            refine wpAnyS_ready (i := 10) (by kernel_rfl) rfl (fun K hK => ?_)
            rw [if_pos (by rfl)]
            refine wp_app_run _ _ _ _ rfl rfl _ _ _ rfl rfl hr5 ?_
            refine hK.out _ _ ⟨?_, fun _ => ?_⟩ (fun hHeld => ?_)
            · trivial
            · exact x5
            clear hK K
            simp only [List.getElem_toArray, List.getElem_cons_succ, List.getElem_cons_zero, Act.put, List.setIfInBounds_toArray, List.set_cons_zero, List.set_cons_succ]
            refine wpAnyS_take (i := 11) (v := .pointer (some ⟨hN, 0, none⟩)) _ rfl (by kernel_rfl) (by kernel_rfl) (by kernel_rfl) (by kernel_rfl) (by kernel_rfl) rfl (fun _ _ _ h => h) (Or.inl ⟨by rfl, ?_⟩) hHeld (fun hHeld => ?_)
            · (intro w1 hSw; have hSw := hSw.1; (try dsimp only at hSw); go_simp)
            simp only [List.getElem_toArray, List.getElem_cons_succ, List.getElem_cons_zero, Act.put, List.setIfInBounds_toArray, List.set_cons_zero, List.set_cons_succ]
            refine wpAnyS_take (i := 12) (v := .pointer (some ⟨hN, 0, none⟩)) _ rfl (by kernel_rfl) (by kernel_rfl) (by kernel_rfl) (by kernel_rfl) (by kernel_rfl) rfl (fun _ _ _ h => h) (Or.inl ⟨by rfl, ?_⟩) hHeld (fun hHeld => ?_)
            · (intro w1 hSw; have hSw := hSw.1; (try dsimp only at hSw); go_simp)
            simp only [List.getElem_toArray, List.getElem_cons_succ, List.getElem_cons_zero, Act.put, List.setIfInBounds_toArray, List.set_cons_zero, List.set_cons_succ]
            refine wpAnyS_ready (i := 13) (by kernel_rfl) rfl (fun K hK => ?_)
            go_simp
            refine hK.out _ _ ⟨?_, fun hno => absurd hno (by decide)⟩ (fun hHeld => ?_)
            · trivial
            clear hK K
            refine wpAnyS_done (by kernel_rfl) ?_ _
            refine NoPanic.normal ?_
            go_wp2_with fail
            go_roundw
            case rel => exact ⟨k + 1, _, by omega, by go_num, HNX⟩
            case measure => simp [intOf]; omega
        · have HP : Hid (P.map paP = partsF 0 rs) := by
            have h1 := HI.out.p
            rw [List.take_of_length_le (by omega)] at h1
            exact h1
          have hPl := HI.out.m.le
          have HM0 : Hid (HM wr w.heap.size wr.heap.size hN P) := HI.out.m
          have HB0 : Hid (Below w.heap.size w wr) := HI.out.b
          obtain ⟨a, cap0, e1, _⟩ := HI.out.m.arr
          have x1 := (cell_row e1 0 (by simp)).1
          simp only [List.getElem_toArray, List.getElem_cons_zero] at x1
          obtain ⟨hs, Hhs⟩ := hid_ex wr.heap.size
          rw [← Hhs.out] at HM0
          have HZ0 : Hid (hs ≤ wr.heap.size) := by unfold Hid; rw [Hhs.out]; omega
          have HQ0 : Hid (HQ lePt ptZ P (P.length / 2)) := fun i h1 h2 h3 => by omega
          have hdv : ((P.length : Int) / 2) = ((P.length / 2 : Nat) : Int) := by omega
          obtain ⟨m, Hm⟩ := hid_ex (P.length / 2)
          rw [← Hm.out] at HQ0 hdv
          have hm5 : m ≤ 50000 := by rw [Hm.out]; omega
          clear e1 HI Hhs
          go_wp2_with fail
          clear hlt hk x1 hdv
          go_loopw [10] (fun i wq => ∃ (s : Nat) (P' : List Pt), s ≤ 50000 ∧ i = .int .i64 ((s : Int) - 1) ∧ Hid (HM wq w.heap.size hs hN P') ∧ Hid (P'.Perm P) ∧ Hid (HQ lePt ptZ P' s) ∧ Hid (hs ≤ wq.heap.size) ∧ Hid (Below w.heap.size w wq)) (fun i _ => (intOf i + 1).toNat)
          case atStart => exact ⟨m, P, hm5, rfl, HM0, List.Perm.refl _, HQ0, HZ0, HB0⟩
          case round =>
            clear HM0 HQ0 HZ0 HB0
            obtain ⟨s, P', hs5, rfl, HM1, HP1, HQ1, HZ1, HB1⟩ := hrel
            rcases Nat.eq_zero_or_pos s with h0 | h0
            · subst h0
              have HEnd : Hid (NwPost rs w (.returned (.tuple #[.pointer (some ⟨hN, 0, none⟩), .int .i64 0])) wr) := by
                refine ⟨HB1.out, .inr ⟨HZ.out, hN, hs, rfl, ⟨P', HM1.out, HQ1.out, ?_, ?_⟩, seqF_pw HZ.out, HZ1.out⟩⟩
                · have h1 := good_parts HZ.out 0
                  rw [← HP.out] at h1
                  exact h1.perm (HP1.out.map paP)
                · have h1 : (seqF rs).Perm (tagsF 0 rs) := srtG_perm _
                  rw [← tags_parts, ← HP.out] at h1
                  exact h1.trans (tags_perm (HP1.out.map paP)).symm
              go_wp2_with fail
              go_ret2
              exact HEnd.out
            · obtain ⟨j, rfl⟩ : ∃ j, s = j + 1 := ⟨s - 1, by omega⟩
              have ej : ((j + 1 : Nat) : Int) - 1 = (j : Int) := by omega
              rw [ej]
              clear ej h0
              go_wp2_with fail
              refine (sink_any w.heap.size hs hN P' j (by omega) _ HM1.out HZ1.out HQ1.out).mono ?_
              rintro e w6 ⟨⟨v6, rfl⟩, P2, hm6, hp6, hq6, hf6⟩
              have HM6 : Hid _ := hm6
              have HP6 : Hid _ := hp6.trans HP1.out
              have HQ6 : Hid _ := hq6
              have HZ6 : Hid _ := Nat.le_trans HZ1.out hf6.b.size
              have HB6 : Hid _ := HB1.out.trans hf6.b
              clear hm6 hp6 hq6 hf6 HM1 HP1 HQ1 HZ1 HB1
              go_wp2_with fail
              go_roundw
              case rel => exact ⟨j, P2, by omega, by go_num, HM6.out, HP6.out, HQ6.out, HZ6.out, HB6.out⟩
              case measure => simp [intOf]
set_option maxRecDepth 100000 in
set_option maxHeartbeats 2000000 in
theorem new_none (a : Option Addr) (cap : Nat) (w : World) : Calls Try.prog 9 #[.slice a 0 cap] w (NwPost [] w) := by
  have HEnd : Hid (∀ W, W = w.alloc (.cells #[.slice none 0 0] 50) → NwPost [] w (.returned (.tuple #[.pointer (some ⟨w.heap.size, 0, none⟩), .int .i64 0])) W) := by
    rintro W rfl
    refine ⟨(Below.refl _ _).alloc (Nat.le_refl _) _, .inr ⟨rfl, w.heap.size, w.heap.size + 1, rfl, ⟨[], ⟨Nat.le_refl _, by omega, ⟨.slice none 0 0, heap_alloc_new _ _, World.ownsRow_nil _ _ _ _, fun k hk => by simp [Value.ownBlock] at hk⟩, fun p hp => (by cases hp), List.nodup_nil, by simp⟩, fun i hi => (by simp at hi), ⟨fun p hp => (by cases hp), fun p hp => (by cases hp), List.nodup_nil⟩, ?_⟩, ?_, by simp⟩⟩
    · exact srtG_perm _
    · exact seqF_pw rfl
  go_enter Try.func9, Try.ntmps9
  go_wp2_with fail
  go_loopw [13] (fun i wr => i = .int .i64 0 ∧ Hid (wr = w)) (fun _ _ => 0)
  case atStart => exact ⟨rfl, rfl⟩
  case round =>
    obtain ⟨rfl, HW⟩ := hrel
    obtain rfl := HW.out
    clear HW
    go_wp2_with fail
    obtain ⟨hN, HhN⟩ := hid_ex wr.heap.size
    obtain ⟨wz, Hwz⟩ := hid_ex (wr.alloc (.cells #[.slice none 0 0] 50))
    have HCZ : Hid (wz.cell? ⟨hN, 0, none⟩ = some (.slice none 0 0)) := by rw [Hwz.out, HhN.out]; exact (cell_row (heap_alloc_new _ _) 0 (by simp)).1
    have HE2 : Hid (NwPost [] wr (.returned (.tuple #[.pointer (some ⟨hN, 0, none⟩), .int .i64 0])) wz) := by rw [HhN.out]; exact HEnd.out wz Hwz.out
    rw [← HhN.out]
    rw [← Hwz.out]
    clear HhN Hwz HEnd
    go_loopw [27] (fun i wq => i = .int .i64 0 ∧ Hid (wq = wz)) (fun _ _ => 0)
    case atStart => exact ⟨rfl, rfl⟩
    case round =>
      obtain ⟨rfl, HW⟩ := hrel
      obtain rfl := HW.out
      clear HW
      have hcz := HCZ.out
      go_wp2_with fail
      go_loopw [10] (fun i wq => i = .int .i64 (-1) ∧ Hid (wq = wr)) (fun _ _ => 0)
      case atStart => exact ⟨rfl, rfl⟩
      case round =>
        obtain ⟨rfl, HW⟩ := hrel
        obtain rfl := HW.out
        clear HW
        go_wp2_with fail
        go_ret2
        exact HE2.out
theorem new_any (v : Value) (rs : List (List En)) (w : World) (hR : RReads w v rs) (hl1 : rs.length ≤ 10000) (hl2 : ∀ r ∈ rs, r.length ≤ 100000) (hl3 : ∀ r ∈ rs, ∀ x ∈ r, x.1.length ≤ 100000) : Calls Try.prog 9 #[v] w (NwPost rs w) := by
  rcases Nat.eq_zero_or_pos rs.length with h0 | h0
  · obtain ⟨a, cap, rfl, _⟩ := hR
    obtain rfl : rs = [] := List.length_eq_zero_iff.1 h0
    exact new_none a cap w
  · obtain ⟨b, off, cap, rfl, _⟩ := rReads_some hR h0
    exact new_some b off cap rs w hR hl1 hl2 hl3
end Go.Proofs.Ytdamlnpfpfpeeaa
