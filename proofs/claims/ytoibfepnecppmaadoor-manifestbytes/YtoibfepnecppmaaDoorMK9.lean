/- MFd, joined. -/
import Derived.Test.YtoibfepnecppmaaDoorMK8
/- manifest: what stands while Read reads. -/
namespace Go.Proofs.YtoibfepnecppmaaDoor
open Go.RowKit

theorem infoI13 : (Tryd.prog.info? 3).map (fun i => (i.zero, i.size, i.bytes)) = some (some (.int .i64 0), 1, 8) := by kernel_rfl
theorem infoU13 : (Tryd.prog.info? 52).map (fun i => (i.zero, i.size, i.bytes)) = some (some (.agg #[.int .i64 0, .int .i64 0, .int .i64 0]), 3, 24) := by kernel_rfl
/-- One more in a row, from a new block. -/
theorem run_one {w : World} (t ty e : TypeId) (i : TypeInfo) (z : Value) (size bytes : Nat) (ht : Tryd.prog.underlying t = some (.slice e)) (hi : Tryd.prog.info? e = some i) (hz : i.zero = some z) (hsize : i.size = size) (hby : i.bytes = bytes) (hzs : z.cells.size = size)
    (v : Value) (n : Nat) (xs : List Value) (h : GOwn w e size v n xs) (hk : ∀ k, v.ownBlock = some k → k < w.heap.size) (ys : List Value) (hy : ys.length = size) (h1 : ∀ u ∈ ys, u.oneCell' = true) (hn : n < 1000000) (hb : bytes ≤ 1000) :
    ∃ v' w', (Builtin.append_ #[t, t] ty #[v, .slice (some ⟨w.heap.size, 0, none⟩) 1 1]).run Tryd.prog (w.alloc (.cells ys.toArray e)) = .ok v' w' ∧ GOwn w' e size v' (n + 1) (xs ++ ys) ∧ (w.alloc (.cells ys.toArray e)).grownBy w' v.ownBlock ∧ (∀ k, v'.ownBlock = some k → v.ownBlock = some k ∨ (w.heap.size ≤ k ∧ k < w'.heap.size)) := by
  have h0 : GOwn (w.alloc (.cells ys.toArray e)) e size v n xs := GOwn.keep h fun k hq => Below.heap_alloc _ _ _ (hk k hq)
  have hb4 := heap_alloc_new w (.cells ys.toArray e)
  have hsr : GSrc (w.alloc (.cells ys.toArray e)) size (.slice (some ⟨w.heap.size, 0, none⟩) 1 1) 1 ys := by
    refine ⟨by rw [hy]; simp, .inr ⟨_, _, rfl, fun k u hq => ?_⟩⟩
    have ea : (⟨w.heap.size, 0, none⟩ : Addr).add k = ⟨w.heap.size, k, none⟩ := by simp [Addr.add]; omega
    rw [ea]
    simp only [World.cell?, hb4]
    simpa using hq
  obtain ⟨v', w', g1, g2, g3, g4⟩ := run_gapp (P := Tryd.prog) t ty e i z size bytes ht hi hz hsize hby hzs v n xs h0 _ 1 ys hsr h1 (by simp only [maxLen]; omega) (Nat.le_trans (Nat.mul_le_mul (show n + 1 ≤ 1000000 by omega) hb) (by decide))
  refine ⟨v', w', g1, g2, g3, fun k hq => ?_⟩
  rcases g4 k hq with h | h
  · exact .inl h
  · exact .inr ⟨by have := h.1; simp at this; omega, h.2⟩
theorem Onl.below_on {w W : World} {base : Nat} (h : Below base w W) : Onl (fun k => base ≤ k) w W := ⟨h.os, h.tape, h.output, h.size, fun k _ hn => h.block k (Nat.lt_of_not_le hn)⟩
/-- What stands. -/
structure RdS (w W : World) (dv av : Value) (q : Bool × List UInt8) (dr : List Int) (ad : List Ru) (x2 x3 x4 : Value) : Prop where
  b : Below w.heap.size w W
  n : NxI W (fun k => w.heap.size ≤ k) (w.heap.size + 1) (w.heap.size + 2) q
  z : W.heap[w.heap.size]? = some (.cells #[.slice none 0 0, .slice none 0 0, .int .i64 0, .int .i64 0, .int .i64 0] 25)
  f : ∃ T, W.heap[w.heap.size + 3]? = some (.cells #[nxV (w.heap.size + 1) (w.heap.size + 2)] T)
  x : W.heap[w.heap.size + 4]? = some (.cells #[dv, av, x2, x3, x4] 25)
  d : GOwn W 3 1 dv dr.length (dr.map ji)
  a : GOwn W 52 3 av ad.length (ad.flatMap r3L)
  dk : ∀ k, dv.ownBlock = some k → w.heap.size + 5 ≤ k ∧ k < W.heap.size
  ak : ∀ k, av.ownBlock = some k → w.heap.size + 5 ≤ k ∧ k < W.heap.size
section
variable {w W W' : World} {dv av : Value} {q : Bool × List UInt8} {dr : List Int} {ad : List Ru} {x2 x3 x4 : Value}
theorem RdS.sz (h : RdS w W dv av q dr ad x2 x3 x4) : w.heap.size + 4 < W.heap.size := (Array.getElem?_eq_some_iff.1 h.x).1
theorem RdS.keep (h : RdS w W dv av q dr ad x2 x3 x4) (hb : Below w.heap.size W W') {q' : Bool × List UInt8} (hn : NxI W' (fun k => w.heap.size ≤ k) (w.heap.size + 1) (w.heap.size + 2) q') (hk : ∀ k, k < W.heap.size → k ≠ w.heap.size + 1 → k ≠ w.heap.size + 2 → W'.heap[k]? = W.heap[k]?) : RdS w W' dv av q' dr ad x2 x3 x4 := by
  have hs := h.sz
  obtain ⟨T, hT⟩ := h.f
  exact ⟨h.b.trans hb, hn, (hk _ (by omega) (by omega) (by omega)).trans h.z, ⟨T, (hk _ (by omega) (by omega) (by omega)).trans hT⟩, (hk _ (by omega) (by omega) (by omega)).trans h.x, h.d.keep fun k e => hk k (h.dk k e).2 (by have := (h.dk k e).1; omega) (by have := (h.dk k e).1; omega), h.a.keep fun k e => hk k (h.ak k e).2 (by have := (h.ak k e).1; omega) (by have := (h.ak k e).1; omega), fun k e => ⟨(h.dk k e).1, Nat.lt_of_lt_of_le (h.dk k e).2 hb.size⟩, fun k e => ⟨(h.ak k e).1, Nat.lt_of_lt_of_le (h.ak k e).2 hb.size⟩⟩
theorem RdS.below (h : RdS w W dv av q dr ad x2 x3 x4) (hb : Below W.heap.size W W') : RdS w W' dv av q dr ad x2 x3 x4 :=
  h.keep (hb.mono (by have := h.sz; omega)) (h.n.below hb) fun k hk _ _ => hb.block k hk
theorem RdS.only (h : RdS w W dv av q dr ad x2 x3 x4) {q' : Bool × List UInt8} (hn : NxI W' (fun k => w.heap.size ≤ k) (w.heap.size + 1) (w.heap.size + 2) q') (ho : Onl (Bx (w.heap.size + 1) (w.heap.size + 2)) W W') : RdS w W' dv av q' dr ad x2 x3 x4 :=
  h.keep (ho.below (by have := h.sz; omega) fun k e => by rcases e with rfl | rfl <;> omega) hn fun k hk h1 h2 => ho.block k hk (by rintro (e | e) <;> omega)
theorem RdS.num (h : RdS w W dv av q dr ad x2 x3 x4) : Calls Tryd.prog 22 #[.pointer (some ⟨w.heap.size + 3, 0, none⟩)] W fun e W' => e = .returned (.int .i64 (stp big q).1) ∧ RdS w W' dv av (stp big q).2 dr ad x2 x3 x4 := by
  obtain ⟨T, hT⟩ := h.f
  exact (number2_any _ _ _ _ T q W h.n hT).mono fun _ _ ⟨h1, h2, h3⟩ => ⟨h1, h.only h2 h3⟩
theorem RdS.nxt (h : RdS w W dv av q dr ad x2 x3 x4) (most : Nat) (hm : most ≤ 9223372036854775807) : Calls Tryd.prog 20 #[.int .u64 (most : Int), .pointer (some ⟨w.heap.size + 1, 0, none⟩), .pointer (some ⟨w.heap.size + 2, 0, none⟩)] W fun e W' => e = .returned (.int .i64 (stp most q).1) ∧ RdS w W' dv av (stp most q).2 dr ad x2 x3 x4 :=
  (next1_any most hm _ _ _ q W h.n).mono fun _ _ ⟨h1, h2, h3⟩ => ⟨h1, h.only h2 h3⟩
/-- A cell of x is set. -/
theorem RdS.set0 {v' : Value} {dr' : List Int} (h : RdS w W dv av q dr ad x2 x3 x4) (ho : Onl (fun k => dv.ownBlock = some k) W W') (hd : GOwn W' 3 1 v' dr'.length (dr'.map ji)) (hk : ∀ k, v'.ownBlock = some k → dv.ownBlock = some k ∨ (W.heap.size ≤ k ∧ k < W'.heap.size)) :
    W'.heap[w.heap.size + 4]? = some (.cells #[dv, av, x2, x3, x4] 25) ∧ RdS w (W'.setCell ⟨w.heap.size + 4, 0, none⟩ v') v' av q dr' ad x2 x3 x4 := by
  have hs := h.sz
  have hsz := ho.size
  have lo : ∀ k, k < w.heap.size + 5 → W'.heap[k]? = W.heap[k]? := fun k hk => ho.block k (by omega) fun e => by have := (h.dk k e).1; omega
  have hx : W'.heap[w.heap.size + 4]? = some (.cells #[dv, av, x2, x3, x4] 25) := (lo _ (by omega)).trans h.x
  have hset : ∀ k, k ≠ w.heap.size + 4 → (W'.setCell ⟨w.heap.size + 4, 0, none⟩ v').heap[k]? = W'.heap[k]? := fun k hk => Go.heap_setCell_other _ _ _ _ hk
  have hb1 : Below w.heap.size W W' := ho.below (by omega) fun k e => by have := (h.dk k e).1; omega
  have hb2 : Below w.heap.size W (W'.setCell ⟨w.heap.size + 4, 0, none⟩ v') := hb1.setCell (by show w.heap.size ≤ w.heap.size + 4; omega) _
  have hne : ∀ k, dv.ownBlock = some k → av.ownBlock = some k → False := fun k e1 e2 => by
    obtain ⟨c1, g1⟩ := h.d.block e1
    obtain ⟨c2, g2⟩ := h.a.block e2
    exact ty_ne g1 g2 (by decide) rfl
  have hzs : (W'.setCell ⟨w.heap.size + 4, 0, none⟩ v').heap.size = W'.heap.size := by simp [World.setCell]
  obtain ⟨T, hT⟩ := h.f
  refine ⟨hx, ⟨h.b.trans hb2, h.n.on (Onl.below_on hb2) ?_ ?_, ?_, ⟨T, ?_⟩, ?_, ?_, ?_, fun k e => ?_, fun k e => ?_⟩⟩
  · rw [hset _ (by omega), lo _ (by omega)]
  · rw [hset _ (by omega), lo _ (by omega)]
  · rw [hset _ (by omega), lo _ (by omega)]; exact h.z
  · rw [hset _ (by omega), lo _ (by omega)]; exact hT
  · rw [heap_setCell_same _ _ _ _ _ _ hx]; rfl
  · refine hd.keep fun k e => hset k ?_
    rcases hk k e with g | g
    · have := (h.dk k g).1; omega
    · omega
  · refine h.a.keep fun k e => ?_
    rw [hset k (by have := (h.ak k e).1; omega), ho.block k (h.ak k e).2 fun g => hne k g e]
  · rw [hzs]
    rcases hk k e with g | g
    · have := h.dk k g; omega
    · omega
  · rw [hzs]; have := h.ak k e; omega
theorem RdS.set1 {v' : Value} {ad' : List Ru} (h : RdS w W dv av q dr ad x2 x3 x4) (ho : Onl (fun k => av.ownBlock = some k) W W') (hd : GOwn W' 52 3 v' ad'.length (ad'.flatMap r3L)) (hk : ∀ k, v'.ownBlock = some k → av.ownBlock = some k ∨ (W.heap.size ≤ k ∧ k < W'.heap.size)) :
    W'.heap[w.heap.size + 4]? = some (.cells #[dv, av, x2, x3, x4] 25) ∧ RdS w (W'.setCell ⟨w.heap.size + 4, 1, none⟩ v') dv v' q dr ad' x2 x3 x4 := by
  have hs := h.sz
  have hsz := ho.size
  have lo : ∀ k, k < w.heap.size + 5 → W'.heap[k]? = W.heap[k]? := fun k hk => ho.block k (by omega) fun e => by have := (h.ak k e).1; omega
  have hx : W'.heap[w.heap.size + 4]? = some (.cells #[dv, av, x2, x3, x4] 25) := (lo _ (by omega)).trans h.x
  have hset : ∀ k, k ≠ w.heap.size + 4 → (W'.setCell ⟨w.heap.size + 4, 1, none⟩ v').heap[k]? = W'.heap[k]? := fun k hk => Go.heap_setCell_other _ _ _ _ hk
  have hb1 : Below w.heap.size W W' := ho.below (by omega) fun k e => by have := (h.ak k e).1; omega
  have hb2 : Below w.heap.size W (W'.setCell ⟨w.heap.size + 4, 1, none⟩ v') := hb1.setCell (by show w.heap.size ≤ w.heap.size + 4; omega) _
  have hne : ∀ k, dv.ownBlock = some k → av.ownBlock = some k → False := fun k e1 e2 => by
    obtain ⟨c1, g1⟩ := h.d.block e1
    obtain ⟨c2, g2⟩ := h.a.block e2
    exact ty_ne g1 g2 (by decide) rfl
  have hzs : (W'.setCell ⟨w.heap.size + 4, 1, none⟩ v').heap.size = W'.heap.size := by simp [World.setCell]
  obtain ⟨T, hT⟩ := h.f
  refine ⟨hx, ⟨h.b.trans hb2, h.n.on (Onl.below_on hb2) ?_ ?_, ?_, ⟨T, ?_⟩, ?_, ?_, ?_, fun k e => ?_, fun k e => ?_⟩⟩
  · rw [hset _ (by omega), lo _ (by omega)]
  · rw [hset _ (by omega), lo _ (by omega)]
  · rw [hset _ (by omega), lo _ (by omega)]; exact h.z
  · rw [hset _ (by omega), lo _ (by omega)]; exact hT
  · rw [heap_setCell_same _ _ _ _ _ _ hx]; rfl
  · refine h.d.keep fun k e => ?_
    rw [hset k (by have := (h.dk k e).1; omega), ho.block k (h.dk k e).2 fun g => hne k e g]
  · refine hd.keep fun k e => hset k ?_
    rcases hk k e with g | g
    · have := (h.ak k g).1; omega
    · omega
  · rw [hzs]; have := h.dk k e; omega
  · rw [hzs]
    rcases hk k e with g | g
    · have := h.ak k g; omega
    · omega
theorem RdS.drop (h : RdS w W dv av q dr ad x2 x3 x4) (y : Int) (hl : dr.length < 1000000) :
    ∃ v' W', (Builtin.append_ #[22, 22] 22 #[dv, .slice (some ⟨W.heap.size, 0, none⟩) 1 1]).run Tryd.prog (W.alloc (.cells #[.int .i64 y] 3)) = .ok v' W' ∧ W'.heap[w.heap.size + 4]? = some (.cells #[dv, av, x2, x3, x4] 25) ∧ RdS w (W'.setCell ⟨w.heap.size + 4, 0, none⟩ v') v' av q (dr ++ [y]) ad x2 x3 x4 := by
  obtain ⟨i0, hi, hz0, hz1, hz2⟩ := info_parts infoI13
  obtain ⟨v', W', h1, h2, h3, h4⟩ := run_one 22 22 3 i0 _ 1 8 Tryd.underlying22 hi hz0 hz1 hz2 rfl dv dr.length _ h.d (fun k e => (h.dk k e).2) [ji y] rfl (by simp [ji]; rfl) hl (by decide)
  have hg : Onl (fun k => dv.ownBlock = some k) W W' := (Onl.alloc _).then (Onl.grown h3 fun k e => e)
  have hd : GOwn W' 3 1 v' (dr ++ [y]).length ((dr ++ [y]).map ji) := by rw [List.length_append, List.map_append]; exact h2
  obtain ⟨hx, hr⟩ := h.set0 hg hd h4
  exact ⟨v', W', h1, hx, hr⟩
theorem RdS.add (h : RdS w W dv av q dr ad x2 x3 x4) (r : Ru) (hl : ad.length < 1000000) :
    ∃ v' W', (Builtin.append_ #[23, 23] 23 #[av, .slice (some ⟨W.heap.size, 0, none⟩) 1 1]).run Tryd.prog (W.alloc (.cells #[.int .i64 r.f, .int .i64 r.l, .int .i64 r.c] 52)) = .ok v' W' ∧ W'.heap[w.heap.size + 4]? = some (.cells #[dv, av, x2, x3, x4] 25) ∧ RdS w (W'.setCell ⟨w.heap.size + 4, 1, none⟩ v') dv v' q dr (ad ++ [r]) x2 x3 x4 := by
  obtain ⟨i0, hi, hz0, hz1, hz2⟩ := info_parts infoU13
  obtain ⟨v', W', h1, h2, h3, h4⟩ := run_one 23 23 52 i0 _ 3 24 Tryd.underlying23 hi hz0 hz1 hz2 rfl av ad.length _ h.a (fun k e => (h.ak k e).2) (r3L r) rfl (by intro u hu; simp [r3L] at hu; rcases hu with rfl | rfl | rfl <;> rfl) hl (by decide)
  have hg : Onl (fun k => av.ownBlock = some k) W W' := (Onl.alloc _).then (Onl.grown h3 fun k e => e)
  have hd : GOwn W' 52 3 v' (ad ++ [r]).length ((ad ++ [r]).flatMap r3L) := by rw [List.length_append, List.flatMap_append]; simpa using h2
  obtain ⟨hx, hr⟩ := h.set1 hg hd h4
  exact ⟨v', W', h1, hx, hr⟩
theorem RdS.fin (h : RdS w W dv av q dr ad x2 x3 x4) (a b c : Value) : RdS w (((W.setCell ⟨w.heap.size + 4, 2, none⟩ a).setCell ⟨w.heap.size + 4, 3, none⟩ b).setCell ⟨w.heap.size + 4, 4, none⟩ c) dv av q dr ad a b c := by
  have hs := h.sz
  have hset : ∀ k, k ≠ w.heap.size + 4 → (((W.setCell ⟨w.heap.size + 4, 2, none⟩ a).setCell ⟨w.heap.size + 4, 3, none⟩ b).setCell ⟨w.heap.size + 4, 4, none⟩ c).heap[k]? = W.heap[k]? := fun k hk => by rw [Go.heap_setCell_other _ _ _ _ hk, Go.heap_setCell_other _ _ _ _ hk, Go.heap_setCell_other _ _ _ _ hk]
  have hb2 : Below w.heap.size W (((W.setCell ⟨w.heap.size + 4, 2, none⟩ a).setCell ⟨w.heap.size + 4, 3, none⟩ b).setCell ⟨w.heap.size + 4, 4, none⟩ c) := (((Below.refl _ _).setCell (by show w.heap.size ≤ w.heap.size + 4; omega) _).setCell (by show w.heap.size ≤ w.heap.size + 4; omega) _).setCell (by show w.heap.size ≤ w.heap.size + 4; omega) _
  have hzs : (((W.setCell ⟨w.heap.size + 4, 2, none⟩ a).setCell ⟨w.heap.size + 4, 3, none⟩ b).setCell ⟨w.heap.size + 4, 4, none⟩ c).heap.size = W.heap.size := by simp [World.setCell]
  obtain ⟨T, hT⟩ := h.f
  refine ⟨h.b.trans hb2, h.n.on (Onl.below_on hb2) (hset _ (by omega)) (hset _ (by omega)), (hset _ (by omega)).trans h.z, ⟨T, (hset _ (by omega)).trans hT⟩, ?_, h.d.keep fun k e => hset k (by have := (h.dk k e).1; omega), h.a.keep fun k e => hset k (by have := (h.ak k e).1; omega), fun k e => by rw [hzs]; exact h.dk k e, fun k e => by rw [hzs]; exact h.ak k e⟩
  rw [heap_setCell_same _ _ _ _ _ _ (heap_setCell_same _ _ _ _ _ _ (heap_setCell_same _ _ _ _ _ _ h.x))]; rfl
end
end Go.Proofs.YtoibfepnecppmaaDoor
