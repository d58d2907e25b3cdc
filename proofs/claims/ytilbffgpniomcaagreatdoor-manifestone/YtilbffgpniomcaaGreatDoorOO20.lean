/- MS2 MO0x MO1x ML5 MO2x, joined. -/
import Derived.Test.YtilbffgpniomcaaGreatDoorOO19
/- manifest: a file system that has one state, and edits behind it: pure. -/
namespace Go.Proofs.YtilbffgpniomcaaGreatDoor
open Go.RowKit Go.Shelf

theorem bits_nm (l : List Ru) (a b c : Int) : (nmE (edS ⟨l, a, b, c⟩)).length = 3 * l.length + 5 := by
  unfold nmE edS
  simp only [List.length_cons, List.length_append, List.length_nil, ru_len]
  omega
theorem stB_len {st : St} (h : okSt st) : (frm (stB st)).length ≤ 2100 := by
  obtain ⟨h1, h2, h3, h4, h5, h6, h7, h8⟩ := h
  obtain ⟨l, a, b, c⟩ := st
  simp only at *
  rw [frm_len]
  have := shB_len (nmE (edS ⟨l, a, b, c⟩)) (fun v hv => by
    unfold nmE edS at hv
    simp only [List.length_nil, List.nil_append, List.mem_cons, List.mem_append, List.not_mem_nil, or_false] at hv
    rcases hv with rfl | rfl | hv | rfl | rfl | rfl
    · simp
    · omega
    · obtain ⟨r, hr, hv⟩ := List.mem_flatMap.1 hv
      have := h7 r hr
      unfold fitR at this
      simp only [Ru.n, List.mem_cons, List.not_mem_nil, or_false] at hv
      omega
    · omega
    · omega
    · omega)
  rw [bits_nm] at this
  unfold stB
  omega
theorem ptB_len {n : Int} (h : isNo n = true) : (frm (sh n.toNat)).length ≤ 18 := by
  obtain ⟨h1, h2⟩ := isNo_iff.1 h
  rw [frm_len]
  have := sh_len10 (n := n.toNat) (by omega)
  omega
/-- A pointer and what it names, all synced. -/
def SV (room : Int) (nm fb pb : List UInt8) (sy : Nat) : SfS := ⟨room, [(curN, 1), (nm, 0)], [(curN, 1), (nm, 0)], [], 0, 0, [(fb, sy), (pb, pb.length)]⟩
theorem save_zero {room n : Int} {st : St} (hr : 10000 ≤ room) (h : okSt st) (hn : isNo n = true) :
    mfSave (sfZ room) n st = (0, SV room (nmF man n) (frm (stB st)) (frm (sh n.toNat)) (frm (stB st)).length) := by
  have hl := stB_len h
  have hp := ptB_len hn
  have n1 := man_name hn
  have n2 := cur_ne hn
  have n3 := new_ne hn
  have n4 := cur_bef hn
  have n5 := new_bef hn
  unfold mfSave
  rw [if_pos ⟨h, hn⟩]
  unfold mfSv mfCre mfExt
  generalize nmF man n = nm at *
  generalize hfb : frm (stB st) = fb at *
  have c1 : sfCreate (sfZ room) nm = (0, ⟨room, [(nm, 0)], [], [⟨[], nm, some 0⟩], 0, 0, [([], 0)]⟩) := by
    unfold sfCreate
    rw [if_neg (by rw [n1]; simp), if_neg (by simp [sfZ, sfLook]), if_neg (by simp [sfZ])]
    rfl
  have k1 : ∀ fs, sfLook nm (⟨room, [(nm, 0)], [], [⟨[], nm, some 0⟩], 0, 0, fs⟩ : SfS).dir = some 0 := fun fs => by simp [sfLook]
  have c2 : sfAppend ⟨room, [(nm, 0)], [], [⟨[], nm, some 0⟩], 0, 0, [([], 0)]⟩ nm fb = (0, ⟨room, [(nm, 0)], [], [⟨[], nm, some 0⟩], 0, 0, [(fb, 0)]⟩) := by
    unfold sfAppend
    rw [k1]
    simp only
    rw [if_neg (by simp [SfS.fl]; omega), if_neg (by simp [SfS.fl, sfUsed]; omega)]
    rfl
  have c3 : sfSync ⟨room, [(nm, 0)], [], [⟨[], nm, some 0⟩], 0, 0, [(fb, 0)]⟩ nm = (0, ⟨room, [(nm, 0)], [], [⟨[], nm, some 0⟩], 0, 0, [(fb, fb.length)]⟩) := by
    unfold sfSync
    rw [k1]
    rfl
  have c4 : sfSyncDir ⟨room, [(nm, 0)], [], [⟨[], nm, some 0⟩], 0, 0, [(fb, fb.length)]⟩ = (0, ⟨room, [(nm, 0)], [(nm, 0)], [], 0, 0, [(fb, fb.length)]⟩) := rfl
  rw [c1, sfThen_0, c2, sfThen_0, c3, sfThen_0, c4, sfThen_0]
  unfold mfRm
  have c5 : sfRemove ⟨room, [(nm, 0)], [(nm, 0)], [], 0, 0, [(fb, fb.length)]⟩ newN = (4, ⟨room, [(nm, 0)], [(nm, 0)], [], 0, 0, [(fb, fb.length)]⟩) := by
    unfold sfRemove
    rw [show sfLook newN (⟨room, [(nm, 0)], [(nm, 0)], [], 0, 0, [(fb, fb.length)]⟩ : SfS).dir = none by simp [sfLook, Ne.symm n3]]
  rw [c5, if_pos (.inr rfl)]
  unfold mfPt mfCre mfExt
  generalize frm (sh n.toNat) = pb at *
  have d1 : sfDel [] [(nm, 0)] = [(nm, 0)] := by
    unfold sfDel
    have : nm ≠ [] := fun e => by rw [e] at n1; simp [sfName] at n1
    simp [this]
  have d2 : sfDel newN [(nm, 0)] = [(nm, 0)] := by unfold sfDel; simp [Ne.symm n3]
  have d3 : sfDo [(nm, 0)] ⟨[], newN, some 1⟩ = [(newN, 1), (nm, 0)] := by
    unfold sfDo sfPut
    simp only
    rw [d1, d2]
    unfold sfIns
    rw [if_pos n5]
  have d4 : sfDo [(newN, 1), (nm, 0)] ⟨newN, curN, some 1⟩ = [(curN, 1), (nm, 0)] := by
    unfold sfDo sfPut
    simp only
    have : sfDel newN [(newN, 1), (nm, 0)] = [(nm, 0)] := by unfold sfDel; simp [Ne.symm n3]
    rw [this]
    have : sfDel curN [(nm, 0)] = [(nm, 0)] := by unfold sfDel; simp [Ne.symm n2]
    rw [this]
    unfold sfIns
    rw [if_pos n4]
  have e1 : sfCreate ⟨room, [(nm, 0)], [(nm, 0)], [], 0, 0, [(fb, fb.length)]⟩ newN = (0, ⟨room, [(newN, 1), (nm, 0)], [(nm, 0)], [⟨[], newN, some 1⟩], 0, 0, [(fb, fb.length), ([], 0)]⟩) := by
    unfold sfCreate
    rw [if_neg (by decide), if_neg (by simp [sfLook, Ne.symm n3]), if_neg (by simp), ← d3]
    rfl
  have k2 : ∀ fs, sfLook newN (⟨room, [(newN, 1), (nm, 0)], [(nm, 0)], [⟨[], newN, some 1⟩], 0, 0, fs⟩ : SfS).dir = some 1 := fun fs => by simp [sfLook]
  have e2 : sfAppend ⟨room, [(newN, 1), (nm, 0)], [(nm, 0)], [⟨[], newN, some 1⟩], 0, 0, [(fb, fb.length), ([], 0)]⟩ newN pb = (0, ⟨room, [(newN, 1), (nm, 0)], [(nm, 0)], [⟨[], newN, some 1⟩], 0, 0, [(fb, fb.length), (pb, 0)]⟩) := by
    unfold sfAppend
    rw [k2]
    simp only
    rw [if_neg (by simp [SfS.fl]; omega), if_neg (by simp [SfS.fl, sfUsed]; omega)]
    rfl
  have e3 : sfSync ⟨room, [(newN, 1), (nm, 0)], [(nm, 0)], [⟨[], newN, some 1⟩], 0, 0, [(fb, fb.length), (pb, 0)]⟩ newN = (0, ⟨room, [(newN, 1), (nm, 0)], [(nm, 0)], [⟨[], newN, some 1⟩], 0, 0, [(fb, fb.length), (pb, pb.length)]⟩) := by
    unfold sfSync
    rw [k2]
    rfl
  have e4 : sfRename ⟨room, [(newN, 1), (nm, 0)], [(nm, 0)], [⟨[], newN, some 1⟩], 0, 0, [(fb, fb.length), (pb, pb.length)]⟩ newN curN = (0, ⟨room, [(curN, 1), (nm, 0)], [(nm, 0)], [⟨[], newN, some 1⟩, ⟨newN, curN, some 1⟩], 0, 0, [(fb, fb.length), (pb, pb.length)]⟩) := by
    unfold sfRename
    rw [if_neg (by decide), k2, ← d4]
    rfl
  have e5 : sfSyncDir ⟨room, [(curN, 1), (nm, 0)], [(nm, 0)], [⟨[], newN, some 1⟩, ⟨newN, curN, some 1⟩], 0, 0, [(fb, fb.length), (pb, pb.length)]⟩ = (0, SV room nm fb pb fb.length) := by
    unfold sfSyncDir sfPlan sfSettle SV
    simp only [if_pos, List.take, List.length_cons, List.length_nil, List.foldl_cons, List.foldl_nil]
    rw [d3, d4]
  rw [e1, sfThen_0, e2, sfThen_0, e3, sfThen_0, e4, sfThen_0, e5]
theorem sv_cur (room : Int) (nm fb pb : List UInt8) (sy : Nat) : sfLook curN (SV room nm fb pb sy).dir = some 1 := by simp [SV, sfLook]
theorem sv_nm (room : Int) {nm : List UInt8} (h : curN ≠ nm) (fb pb : List UInt8) (sy : Nat) : sfLook nm (SV room nm fb pb sy).dir = some 0 := by simp [SV, sfLook, h]
theorem sv_rdc (room : Int) (nm fb pb : List UInt8) (sy : Nat) : sfRead (SV room nm fb pb sy) curN = pb := by unfold sfRead; rw [sv_cur]; rfl
theorem sv_rdn (room : Int) {nm : List UInt8} (h : curN ≠ nm) (fb pb : List UInt8) (sy : Nat) : sfRead (SV room nm fb pb sy) nm = fb := by unfold sfRead; rw [sv_nm room h]; rfl
theorem sv_load {room n : Int} (hn : isNo n = true) (fb : List UInt8) (sy : Nat) {st : St} (h : rpS fb = some st) : mfLd (SV room (nmF man n) fb (frm (sh n.toNat)) sy) = (some (st, n), 0) := by
  obtain ⟨h1, h2⟩ := isNo_iff.1 hn
  unfold mfLd
  rw [sv_cur]
  simp only
  rw [sv_rdc, pt_iff.2 ⟨h1, h2, rfl⟩]
  simp only
  rw [sv_rdn room (cur_ne hn), h]
theorem sv_again {room n : Int} (hn : isNo n = true) (fb pb : List UInt8) (sy : Nat) {st : St} (h : okSt st) : mfSave (SV room (nmF man n) fb pb sy) n st = (80, SV room (nmF man n) fb pb sy) := by
  unfold mfSave
  rw [if_pos ⟨h, hn⟩]
  unfold mfSv mfCre
  have : sfCreate (SV room (nmF man n) fb pb sy) (nmF man n) = (80, SV room (nmF man n) fb pb sy) := by
    unfold sfCreate
    rw [if_neg (by rw [man_name hn]; simp), if_pos (by rw [sv_nm room (cur_ne hn)]; rfl)]
  have h2 : sfThen (80, SV room (nmF man n) fb pb sy) (fun t => mfExt t (nmF man n) (stB st)) = (80, SV room (nmF man n) fb pb sy) := sfThen_no (by simp) _
  rw [this, h2, sfThen_no (by simp)]
theorem sv_ext {room : Int} {nm : List UInt8} (h : curN ≠ nm) (fb pb d : List UInt8) (sy : Nat) (hl : fb.length + (frm d).length ≤ 1048576) (hr : ((pb.length + fb.length + (frm d).length : Nat) : Int) ≤ room) :
    mfExt (SV room nm fb pb sy) nm d = (0, SV room nm (fb ++ frm d) pb (fb ++ frm d).length) := by
  unfold mfExt
  have e1 : (SV room nm fb pb sy).fl 0 = (fb, sy) := rfl
  have e2 : sfUsed (SV room nm fb pb sy) = pb.length + fb.length := by simp [sfUsed, SV, SfS.fl]
  have e3 : (SV room nm fb pb sy).room = room := rfl
  have : sfAppend (SV room nm fb pb sy) nm (frm d) = (0, SV room nm (fb ++ frm d) pb sy) := by
    unfold sfAppend
    rw [sv_nm room h]
    simp only
    rw [e1, e2, e3, if_neg (by simp only; omega), if_neg (by omega)]
    rfl
  rw [this, sfThen_0]
  unfold sfSync
  rw [sv_nm room h]
  rfl
/-- Frames that all make edits. -/
theorem fm_cat {ds : List (List UInt8)} (h : ∀ d ∈ ds, d.length ≤ 65535) : fmS (cat ds) = ds := by
  unfold fmS
  have h2 := en_ge ds ds.length (Nat.le_refl _)
  have e : en ds ds.length = (cat ds).length := by unfold en; rw [List.take_length]
  have := al_cut ds.length ds (cat ds).length ((cat ds).length + 1) (Nat.le_refl _) h (by omega) (.inl rfl) (by omega)
  rw [List.take_length] at this
  rw [this, List.take_length, List.map_map]
  exact List.map_id _
theorem fm_cut {ds : List (List UInt8)} {x : List UInt8} (h : ∀ d ∈ ds, d.length ≤ 65535) (hx : x.length ≤ 65535) {c : Nat} (hc : c < (frm x).length) : fmS (cat ds ++ (frm x).take c) = ds := by
  have h2 := en_ge ds ds.length (Nat.le_refl _)
  have e : en (ds ++ [x]) ds.length = (cat ds).length := by unfold en; rw [List.take_left]
  have ec : cat (ds ++ [x]) = cat ds ++ frm x := by rw [cat_append]; simp [cat]
  have e2 : en (ds ++ [x]) (ds.length + 1) = (cat ds).length + (frm x).length := by unfold en; rw [List.take_of_length_le (by simp), ec, List.length_append]
  have h2' : 8 * ds.length ≤ (cat ds).length := by have : en ds ds.length = (cat ds).length := by unfold en; rw [List.take_length]
                                                   omega
  have hl : (cat ds ++ (frm x).take c).length = (cat ds).length + c := by simp; omega
  have ht : (cat (ds ++ [x])).take ((cat ds).length + c) = cat ds ++ (frm x).take c := by
    rw [ec, List.take_append, List.take_of_length_le (by omega)]
    congr 2
    omega
  have := al_cut ds.length (ds ++ [x]) ((cat ds).length + c) ((cat ds).length + c + 1) (by simp) (fun d hd => by
    rcases List.mem_append.1 hd with hd | hd
    · exact h d hd
    · simp only [List.mem_singleton] at hd; rw [hd]; exact hx) (by omega) (.inr (by omega)) (by omega)
  unfold fmS
  rw [hl, ← ht, this, List.take_left, List.map_map]
  exact List.map_id _
theorem rpF_app : ∀ (ds : List (List UInt8)) (s : St) (m : Bool) {t : St} {d : List UInt8} {x : Ed} {u : St}, (rpF ds s m = (t, true) ∧ (∀ e, rpF (ds ++ [e]) s m = rpF [e] t true)) → edR d = some x → (apS t x).1 = some u → rpF (ds ++ [d]) s m = (u, true) := fun ds s m t d x u h h1 h2 => by
  rw [h.2, rpF_on [] t true h1 h2, rpF]
/-- All frames made edits. -/
def RpA (ds : List (List UInt8)) (t : St) : Prop := ∀ es, rpF (ds ++ es) st0 false = rpF es t true
theorem RpA.st {ds : List (List UInt8)} {t : St} (h : RpA ds t) : rpF ds st0 false = (t, true) := by
  have := h []
  rwa [List.append_nil, rpF] at this
theorem RpA.rpS {ds : List (List UInt8)} {t : St} (h : RpA ds t) {b : List UInt8} (hb : fmS b = ds) : rpS b = some t := by
  unfold Go.Proofs.YtilbffgpniomcaaGreatDoor.rpS
  rw [hb, h.st]
  rfl
theorem RpA.app {ds : List (List UInt8)} {t u : St} {d : List UInt8} {x : Ed} (h : RpA ds t) (h1 : edR d = some x) (h2 : (apS t x).1 = some u) : RpA (ds ++ [d]) u := fun es => by
  rw [List.append_assoc, h, List.singleton_append, rpF_on es t true h1 h2]
theorem edS_wr {st : St} (h : okSt st) : edW (edS st) = some (stB st) ∧ edR (stB st) = some (edS st) := by
  obtain ⟨h1, h2, h3, h4, h5, h6, h7, h8⟩ := h
  obtain ⟨l, a, b, c⟩ := st
  simp only at *
  have hv : ∀ v ∈ nmE (edS ⟨l, a, b, c⟩), 0 ≤ v ∧ v ≤ 9223372036854775807 := fun v hv => by
    unfold nmE edS at hv
    simp only [List.length_nil, List.nil_append, List.mem_cons, List.mem_append, List.not_mem_nil, or_false] at hv
    rcases hv with rfl | rfl | hv | rfl | rfl | rfl
    · simp
    · omega
    · obtain ⟨r, hr, hv⟩ := List.mem_flatMap.1 hv
      have := h7 r hr
      unfold fitR at this
      simp only [Ru.n, List.mem_cons, List.not_mem_nil, or_false] at hv
      omega
    · omega
    · omega
    · omega
  have e : edW (edS ⟨l, a, b, c⟩) = some (stB ⟨l, a, b, c⟩) := by
    unfold edW
    rw [if_neg (by simp [edS]; omega), if_pos (by unfold okN; rw [List.all_eq_true]; intro v q; exact decide_eq_true (hv v q).1)]
    rfl
  exact ⟨e, edR_wr e (fun v q => (hv v q).2)⟩
theorem ap_st0 {st : St} (h : okSt st) : apS st0 (edS st) = (some st, 0) := by
  have h' := h
  obtain ⟨h1, h2, h3, h4, h5, h6, h7, h8⟩ := h
  have hw : wk st.ru := ahd_wk (h8.imp fun q => q.1)
  rw [apS_sorted st0_ok (l := []) (by rfl) (by simp only [edS, st0]; omega) hw (by simp [edS])]
  rw [if_pos (by simpa [edS] using h')]
  rfl
theorem rpa_one {st : St} (h : okSt st) : RpA [stB st] st := fun es => by
  rw [List.singleton_append, rpF_on es st0 false (edS_wr h).2 (by rw [ap_st0 h])]
theorem stB_le {st : St} (h : okSt st) : (stB st).length ≤ 65535 := by have := stB_len h; rw [frm_len] at this; omega
end Go.Proofs.YtilbffgpniomcaaGreatDoor

/- Names looked up in directories. -/
namespace Go.Proofs.YtilbffgpniomcaaGreatDoor
open Go.RowKit Go.Shelf

theorem look_cons (s : List UInt8) (y : List UInt8 × Nat) (r : List (List UInt8 × Nat)) : sfLook s (y :: r) = if y.1 = s then some y.2 else sfLook s r := by
  unfold sfLook
  rw [List.find?_cons]
  by_cases e : y.1 = s
  · rw [if_pos e, show (y.1 == s) = true by simpa using e]; rfl
  · rw [if_neg e, show (y.1 == s) = false by simpa using e]
theorem look_del (s t : List UInt8) : ∀ l : List (List UInt8 × Nat), sfLook s (sfDel t l) = if s = t then none else sfLook s l
  | [] => by simp [sfDel, sfLook]
  | y :: r => by
    have ih := look_del s t r
    by_cases e : y.1 = t
    · have : sfDel t (y :: r) = sfDel t r := by unfold sfDel; rw [List.filter_cons, show (y.1 == t) = true by simpa using e]; rfl
      rw [this, ih, look_cons]
      split
      · rfl
      · rename_i h
        rw [if_neg (fun z => h (by rw [← z, e]))]
    · have : sfDel t (y :: r) = y :: sfDel t r := by unfold sfDel; rw [List.filter_cons, show (y.1 == t) = false by simpa using e]; rfl
      rw [this, look_cons, look_cons, ih]
      by_cases e2 : y.1 = s
      · rw [if_pos e2, if_pos e2]
        split
        · rename_i h; exact absurd (e2.trans h) e
        · rfl
      · rw [if_neg e2, if_neg e2]
theorem look_ins (s : List UInt8) (x : List UInt8 × Nat) : ∀ {l : List (List UInt8 × Nat)}, (∀ p ∈ l, p.1 ≠ x.1) → sfLook s (sfIns x l) = if x.1 = s then some x.2 else sfLook s l
  | [], _ => by rw [sfIns, look_cons]
  | y :: r, h => by
    have ih := look_ins s x (l := r) (fun p hp => h p (by simp [hp]))
    unfold sfIns
    split
    · rw [look_cons]
    · rw [look_cons, look_cons, ih]
      by_cases e : y.1 = s
      · rw [if_pos e, if_pos e, if_neg (fun z => h y (by simp) (e.trans z.symm))]
      · rw [if_neg e, if_neg e]
theorem look_put (s : List UInt8) (x : List UInt8 × Nat) (l : List (List UInt8 × Nat)) : sfLook s (sfPut x l) = if x.1 = s then some x.2 else sfLook s l := by
  unfold sfPut
  rw [look_ins s x (fun p hp => by have := (List.mem_filter.1 hp).2; simpa using this), look_del]
  by_cases e : x.1 = s
  · rw [if_pos e, if_pos e]
  · rw [if_neg e, if_neg e, if_neg (fun z => e z.symm)]
end Go.Proofs.YtilbffgpniomcaaGreatDoor

/- ManifestOne, plainly: Save step by step, whatever fails. -/
namespace Go.Proofs.YtilbffgpniomcaaGreatDoor
open Go.RowKit Go.Shelf

abbrev Dir := List (List UInt8 × Nat)
/-- Of every directory that a crash may leave. -/
def Cr (s : SfS) (P : Dir → Prop) : Prop := ∀ k, P ((s.pend.take k).foldl sfDo s.old)
theorem Cr.dir {s : SfS} {P : Dir → Prop} (h : Cr s P) (hw : SfWf s) : P s.dir := by
  have := h s.pend.length
  rwa [List.take_length, ← hw.ap] at this
theorem Cr.mono {s : SfS} {P Q : Dir → Prop} (h : Cr s P) (hp : ∀ D, P D → Q D) : Cr s Q := fun k => hp _ (h k)
theorem Cr.same {s t : SfS} {P : Dir → Prop} (h : Cr s P) (ho : t.old = s.old) (hp : t.pend = s.pend) : Cr t P := fun k => by rw [ho, hp]; exact h k
theorem cr_act {s t : SfS} {P : Dir → Prop} {a : SfA} (hw : SfWf s) (h : Cr s P) (ha : P (sfDo s.dir a)) (ho : t.old = s.old) (hp : t.pend = s.pend ++ [a]) : Cr t P := fun k => by
  rw [ho, hp]
  by_cases hk : k ≤ s.pend.length
  · rw [List.take_append_of_le_length hk]; exact h k
  · rw [List.take_of_length_le (by simp; omega), List.foldl_append, ← hw.ap]; exact ha
theorem cr_set {s t : SfS} {P : Dir → Prop} (h : P s.dir) (ho : t.old = s.dir) (hp : t.pend = []) : Cr t P := fun k => by rw [ho, hp, List.take_nil]; exact h
structure Sm (s t : SfS) : Prop where
  dir : t.dir = s.dir
  old : t.old = s.old
  pend : t.pend = s.pend
  fls : t.fls = s.fls
  room : t.room = s.room
theorem plan_x (s : SfS) : ∃ e t, sfPlan s = (e, t) ∧ Sm s t ∧ (s.fault = 0 → e = 0 ∧ t.fault = 0) ∧ (s.fault ≠ 4 → e ≠ 4 ∧ t.fault ≠ 4) := by
  unfold sfPlan
  split
  · rename_i h; exact ⟨0, s, rfl, ⟨rfl, rfl, rfl, rfl, rfl⟩, fun _ => ⟨rfl, h⟩, fun g => ⟨by decide, g⟩⟩
  · rename_i h
    split
    · exact ⟨_, _, rfl, ⟨rfl, rfl, rfl, rfl, rfl⟩, fun z => absurd z h, fun g => ⟨by decide, g⟩⟩
    · exact ⟨_, _, rfl, ⟨rfl, rfl, rfl, rfl, rfl⟩, fun z => absurd z h, fun g => ⟨g, by show (0 : Int) ≠ 4; decide⟩⟩
/-- A change of the directory is done, or it isn't. -/
theorem change_x (s : SfS) (a : SfA) : ∃ e t, sfChange s a = (e, t) ∧ t.old = s.old ∧ t.fls = s.fls ∧ t.room = s.room ∧ ((s.fault = 0 → e = 0 ∧ t.fault = 0) ∧ (s.fault ≠ 4 → e ≠ 4 ∧ t.fault ≠ 4)) ∧ ((e = 0 ∧ t.dir = sfDo s.dir a ∧ t.pend = s.pend ++ [a]) ∨ (e ≠ 0 ∧ t.dir = s.dir ∧ t.pend = s.pend)) := by
  obtain ⟨e, p, hp, hs, hf, h4⟩ := plan_x s
  unfold sfChange
  rw [hp]
  simp only
  by_cases he : e = 0
  · rw [if_pos he]
    exact ⟨0, _, rfl, hs.old, hs.fls, hs.room, ⟨fun z => ⟨rfl, (hf z).2⟩, fun g => ⟨by decide, (h4 g).2⟩⟩, .inl ⟨rfl, by rw [← hs.dir], by rw [← hs.pend]⟩⟩
  · rw [if_neg he]
    exact ⟨e, p, rfl, hs.old, hs.fls, hs.room, ⟨fun z => absurd (hf z).1 he, h4⟩, .inr ⟨he, hs.dir, hs.pend⟩⟩
theorem used_le {s : SfS} (h : ∀ f ∈ s.fls, f.1.length ≤ 4000) : sfUsed s ≤ 4000 * s.dir.length := by
  have hf : ∀ i, (s.fl i).1.length ≤ 4000 := fun i => by
    unfold SfS.fl
    rw [List.getD_eq_getElem?_getD]
    cases hi : s.fls[i]? with
    | none => simp
    | some f => exact h f (List.mem_of_getElem? hi)
  unfold sfUsed
  generalize s.dir = D
  induction D with
  | nil => simp
  | cons p D ih =>
    have := hf p.2
    simp only [List.map_cons, List.sum_cons, List.length_cons]
    omega
theorem ext_x {s : SfS} {nm d : List UInt8} {N : Nat} (hl : sfLook nm s.dir = some N) (hN : s.fls[N]? = some ([], 0)) (hu : ((sfUsed s + (frm d).length : Nat) : Int) ≤ s.room) (hd : (frm d).length ≤ 4000) :
    ∃ e t f, mfExt s nm d = (e, t) ∧ t.dir = s.dir ∧ t.old = s.old ∧ t.pend = s.pend ∧ t.room = s.room ∧ t.fls = s.fls.set N f ∧ f.1.length ≤ 4000 ∧ (e = 0 → f = (frm d, (frm d).length)) ∧ (s.fault = 0 → e = 0 ∧ t.fault = 0) ∧ (s.fault ≠ 4 → t.fault ≠ 4) := by
  have hfl : s.fl N = ([], 0) := by unfold SfS.fl; rw [List.getD_eq_getElem?_getD, hN]; rfl
  have hNl : N < s.fls.length := (List.getElem?_eq_some_iff.1 hN).1
  have hset : s.fls.set N ([], 0) = s.fls := by
    apply List.ext_getElem?
    intro i
    rw [List.getElem?_set]
    split
    · rename_i h; subst h; exact hN.symm
    · rfl
  obtain ⟨e, p, hp, hs, hf, h4⟩ := plan_x s
  have ha : sfAppend s nm (frm d) = if e = 0 then (0, p.setF N (frm d, 0)) else (e, p) := by
    unfold sfAppend
    rw [hl]
    simp only
    rw [hfl, hp, if_neg (by simp; omega), if_neg (by omega)]
    rfl
  unfold mfExt
  rw [ha]
  by_cases he : e = 0
  · rw [if_pos he, sfThen_0]
    obtain ⟨e2, q, hq, hs2, hf2, h42⟩ := plan_x (p.setF N (frm d, 0))
    have hl2 : sfLook nm (p.setF N (frm d, 0)).dir = some N := by show sfLook nm p.dir = _; rw [hs.dir]; exact hl
    have hN2 : (p.setF N (frm d, 0)).fl N = (frm d, 0) := by
      unfold SfS.fl SfS.setF
      simp only
      rw [hs.fls, List.getD_eq_getElem?_getD, List.getElem?_set, if_pos rfl, if_pos hNl]
      rfl
    have hsy : sfSync (p.setF N (frm d, 0)) nm = if e2 = 0 then (0, q.setF N (frm d, (frm d).length)) else (e2, q) := by
      unfold sfSync
      rw [hl2]
      simp only
      rw [hN2, hq]
    rw [hsy]
    have b1 : q.dir = s.dir := hs2.dir.trans hs.dir
    have b2 : q.old = s.old := hs2.old.trans hs.old
    have b3 : q.pend = s.pend := hs2.pend.trans hs.pend
    have b4 : q.room = s.room := hs2.room.trans hs.room
    have b5 : q.fls = s.fls.set N (frm d, 0) := by rw [hs2.fls]; show p.fls.set N _ = _; rw [hs.fls]
    have hf3 : s.fault = 0 → e2 = 0 ∧ q.fault = 0 := fun z => hf2 (hf z).2
    have h43 : s.fault ≠ 4 → q.fault ≠ 4 := fun g => (h42 (h4 g).2).2
    by_cases he2 : e2 = 0
    · rw [if_pos he2]
      refine ⟨0, _, (frm d, (frm d).length), rfl, b1, b2, b3, b4, ?_, hd, fun _ => rfl, fun z => ⟨rfl, (hf3 z).2⟩, h43⟩
      show q.fls.set N _ = _
      rw [b5, List.set_set]
    · rw [if_neg he2]
      exact ⟨e2, q, (frm d, 0), rfl, b1, b2, b3, b4, b5, hd, fun z => absurd z he2, fun z => absurd (hf3 z).1 he2, h43⟩
  · rw [if_neg he]
    exact ⟨e, p, ([], 0), sfThen_no (r := (e, p)) he _, hs.dir, hs.old, hs.pend, hs.room, by rw [hset]; exact hs.fls, by simp, fun z => absurd z he, fun z => absurd (hf z).1 he, fun g => (h4 g).2⟩
/-- A file is made, or it isn't. -/
theorem cre_x {s : SfS} {nm d : List UInt8} (hn : sfName nm = true) (hl : sfLook nm s.dir = none) (hc : s.dir.length ≤ 200) (hz : ∀ f ∈ s.fls, f.1.length ≤ 4000) (hr : s.room = 1048576) (hd : (frm d).length ≤ 4000) :
    ∃ e t f, mfCre s nm d = (e, t) ∧ t.old = s.old ∧ t.room = s.room ∧ t.fls = s.fls ++ [f] ∧ f.1.length ≤ 4000 ∧ ((s.fault = 0 → e = 0 ∧ t.fault = 0) ∧ (s.fault ≠ 4 → t.fault ≠ 4)) ∧
      ((t.dir = sfDo s.dir ⟨[], nm, some s.fls.length⟩ ∧ t.pend = s.pend ++ [⟨[], nm, some s.fls.length⟩] ∧ (e = 0 → f = (frm d, (frm d).length))) ∨ (e ≠ 0 ∧ t.dir = s.dir ∧ t.pend = s.pend)) := by
  have hcr : sfCreate s nm = sfChange (sfNew s) ⟨[], nm, some s.fls.length⟩ := by
    unfold sfCreate
    rw [if_neg (by rw [hn]; simp), if_neg (by rw [hl]; simp), if_neg (by omega)]
  obtain ⟨e, t, ht, t1, t2, t3, t4, t5⟩ := change_x (sfNew s) ⟨[], nm, some s.fls.length⟩
  unfold mfCre
  rw [hcr, ht]
  have hnl : nm ≠ [] := fun z => by rw [z] at hn; simp [sfName] at hn
  rcases t5 with ⟨he, hdir, hpe⟩ | ⟨he, hdir, hpe⟩
  · subst he
    rw [sfThen_0]
    have hlk : sfLook nm t.dir = some s.fls.length := by
      rw [hdir]
      show sfLook nm (sfPut (nm, s.fls.length) (sfDel [] s.dir)) = _
      rw [look_put, if_pos rfl]
    have hfls : t.fls = s.fls ++ [([], 0)] := t2
    have hN : t.fls[s.fls.length]? = some ([], 0) := by rw [hfls]; simp
    have hlen : t.dir.length ≤ 201 := by
      rw [hdir]
      show (sfPut (nm, s.fls.length) (sfDel [] s.dir)).length ≤ _
      have := sfPut_le (nm, s.fls.length) (sfDel [] s.dir)
      have h2 : (sfDel [] s.dir).length ≤ s.dir.length := List.length_filter_le _ _
      omega
    have hz' : ∀ f ∈ t.fls, f.1.length ≤ 4000 := fun f hf => by
      rw [hfls] at hf
      rcases List.mem_append.1 hf with hf | hf
      · exact hz f hf
      · simp only [List.mem_singleton] at hf; rw [hf]; simp
    have hu := used_le hz'
    have hroom : t.room = 1048576 := by rw [t3]; exact hr
    obtain ⟨e2, u, f, hu1, u1, u2, u3, u4, u5, u6, u7, u8, u9⟩ := ext_x (d := d) hlk hN (by rw [hroom]; omega) hd
    refine ⟨e2, u, f, hu1, u2.trans t1, u4.trans t3, ?_, u6, ⟨fun z => u8 (t4.1 z).2, fun g => u9 (t4.2 g).2⟩, .inl ⟨u1.trans hdir, u3.trans hpe, u7⟩⟩
    rw [u5, hfls, List.set_append_right _ _ (Nat.le_refl _)]
    simp
  · exact ⟨e, t, ([], 0), sfThen_no (r := (e, t)) he _, t1, t3, t2, by simp, ⟨t4.1, fun g => (t4.2 g).2⟩, .inr ⟨he, hdir, hpe⟩⟩
end Go.Proofs.YtilbffgpniomcaaGreatDoor

/- ManifestLoads: its file systems, plainly. -/
namespace Go.Proofs.YtilbffgpniomcaaGreatDoor
open Go.RowKit Go.Shelf

def ld2 (nm l : List UInt8) : SfS := ⟨10000, [(nm, 0)], [], [⟨[], nm, some 0⟩], 0, 0, [(l, 0)]⟩
def ld3 (p nm l : List UInt8) : SfS := ⟨10000, [(curN, 0), (nm, 1)], [], [⟨[], curN, some 0⟩, ⟨[], nm, some 1⟩], 0, 0, [(p, 0), (l, 0)]⟩
def ldSt (t : Bool) (n : Int) (p l : List UInt8) : SfS := if isNo n = true then (if t then ld3 p (nmF man n) l else ld2 (nmF man n) l) else (if t then ld2 curN p else sfZ 10000)
theorem ld_cr1 {nm : List UInt8} (h : sfName nm = true) : sfCreate (sfZ 10000) nm = (0, ld2 nm []) := by
  unfold sfCreate
  rw [if_neg (by rw [h]; simp), if_neg (by simp [sfZ, sfLook]), if_neg (by simp [sfZ])]
  rfl
theorem ld_lk2 (nm l : List UInt8) : sfLook nm (ld2 nm l).dir = some 0 := by simp [ld2, sfLook]
theorem ld_ap1 (nm : List UInt8) {l : List UInt8} (h : l.length ≤ 2000) : sfAppend (ld2 nm []) nm l = (0, ld2 nm l) := by
  unfold sfAppend
  rw [ld_lk2]
  simp only
  have e3 : (ld2 nm []).room = 10000 := rfl
  rw [if_neg (by simp [SfS.fl, ld2]; omega), if_neg (by rw [e3]; simp [SfS.fl, sfUsed, ld2]; omega)]
  rfl
theorem ld_cr2 {p nm : List UInt8} (h : sfName nm = true) (h2 : curN ≠ nm) (h3 : bytesBefore nm curN = false) : sfCreate (ld2 curN p) nm = (0, ld3 p nm []) := by
  have d1 : sfDo [(curN, 0)] ⟨[], nm, some 1⟩ = [(curN, 0), (nm, 1)] := by
    unfold sfDo sfPut
    simp only
    have e1 : sfDel [] [(curN, 0)] = [(curN, 0)] := by decide
    rw [e1]
    have e2 : sfDel nm [(curN, 0)] = [(curN, 0)] := by unfold sfDel; simp [h2]
    rw [e2]
    unfold sfIns
    rw [if_neg (by simp [h3])]
    rfl
  unfold sfCreate
  rw [if_neg (by rw [h]; simp), if_neg (by simp [ld2, sfLook, h2]), if_neg (by simp [ld2])]
  unfold ld3
  rw [← d1]
  rfl
theorem ld_lk3 {p nm l : List UInt8} (h2 : curN ≠ nm) : sfLook nm (ld3 p nm l).dir = some 1 := by simp [ld3, sfLook, h2]
theorem ld_ap2 {p nm l : List UInt8} (h2 : curN ≠ nm) (hp : p.length ≤ 200) (h : l.length ≤ 2000) : sfAppend (ld3 p nm []) nm l = (0, ld3 p nm l) := by
  unfold sfAppend
  rw [ld_lk3 h2]
  simp only
  have e3 : (ld3 p nm []).room = 10000 := rfl
  rw [if_neg (by simp [SfS.fl, ld3]; omega), if_neg (by rw [e3]; simp [SfS.fl, sfUsed, ld3]; omega)]
  rfl
theorem rpS_nil : rpS [] = none := by decide
theorem ld_len {t : Bool} {n : Int} {p l : List UInt8} (hp : p.length ≤ 200) (hl : l.length ≤ 2000) (nm : List UInt8) : (sfRead (ldSt t n p l) nm).length ≤ 1000000 := by
  have hf : ∀ i, ((ldSt t n p l).fl i).1.length ≤ 2000 := fun i => by
    unfold ldSt
    split <;> split
    · match i with
      | 0 => simp [ld3, SfS.fl]; omega
      | 1 => simp [ld3, SfS.fl]; omega
      | i + 2 => simp [ld3, SfS.fl]
    · match i with
      | 0 => simp [ld2, SfS.fl]; omega
      | i + 1 => simp [ld2, SfS.fl]
    · match i with
      | 0 => simp [ld2, SfS.fl]; omega
      | i + 1 => simp [ld2, SfS.fl]
    · simp [sfZ, SfS.fl]
  unfold sfRead
  split
  · simp
  · exact Nat.le_trans (hf _) (by decide)
theorem man_inj {n m : Int} (hn : isNo n = true) (hm : isNo m = true) (h : nmF man n = nmF man m) : n = m := by
  obtain ⟨h1, h2⟩ := isNo_iff.1 hn
  obtain ⟨h3, h4⟩ := isNo_iff.1 hm
  exact nmF_inj h1 h2 h3 h4 h
theorem ld_tell (t : Bool) (n : Int) (p l : List UInt8) : mfLd (ldSt t n p l) = if t = false then (none, 4) else if (ptF p).getD 0 = 0 ∨ (ptF p).getD 0 ≠ n ∨ (rpF (fmS l) st0 false).2 = false then (none, 114) else (some ((rpF (fmS l) st0 false).1, n), 0) := by
  cases t with
  | false =>
    rw [if_pos rfl]
    unfold mfLd ldSt
    by_cases hn : isNo n = true
    · rw [if_pos hn, if_neg (show ¬ (false = true) by simp), show sfLook curN (ld2 (nmF man n) l).dir = none by simp [ld2, sfLook, Ne.symm (cur_ne hn)]]
    · rw [if_neg hn]
      rfl
  | true =>
    rw [if_neg (by simp)]
    have hc : (∃ i, sfLook curN (ldSt true n p l).dir = some i) ∧ sfRead (ldSt true n p l) curN = p := by
      unfold ldSt
      split
      · exact ⟨⟨0, by simp [ld3, sfLook]⟩, by simp [sfRead, ld3, sfLook, SfS.fl]⟩
      · exact ⟨⟨0, by simp [ld2, sfLook]⟩, by simp [sfRead, ld2, sfLook, SfS.fl]⟩
    obtain ⟨⟨i, h1⟩, h2⟩ := hc
    unfold mfLd
    rw [h1]
    simp only
    rw [h2]
    cases hp : ptF p with
    | none => rw [if_pos (.inl rfl)]
    | some m =>
      obtain ⟨m1, m2, _⟩ := pt_iff.1 hp
      have hm : isNo m = true := isNo_iff.2 ⟨m1, m2⟩
      simp only [Option.getD_some]
      by_cases e : m = n
      · subst e
        have hr : sfRead (ldSt true m p l) (nmF man m) = l := by
          unfold ldSt
          rw [if_pos hm]
          simp [sfRead, ld3, sfLook, SfS.fl, cur_ne hm]
        rw [hr]
        unfold rpS
        cases hq : (rpF (fmS l) st0 false).2 with
        | false => rw [if_neg (by simp), if_pos (.inr (.inr rfl))]
        | true => rw [if_pos rfl, if_neg (by simp; omega)]
      · rw [if_pos (.inr (.inl e))]
        have hr : sfRead (ldSt true n p l) (nmF man m) = [] := by
          unfold ldSt
          split
          · rename_i hn
            have e2 : nmF man n ≠ nmF man m := fun z => e (man_inj hn hm z).symm
            simp [sfRead, ld3, sfLook, cur_ne hm, e2]
          · simp [sfRead, ld2, sfLook, cur_ne hm]
        rw [hr, rpS_nil]
end Go.Proofs.YtilbffgpniomcaaGreatDoor

/- ManifestOne, plainly: one state or the other. -/
namespace Go.Proofs.YtilbffgpniomcaaGreatDoor
open Go.RowKit Go.Shelf

/-- In this directory, with these files, a pointer names a state. -/
def Gd (m : Int) (st : St) (fl : List (List UInt8 × Nat)) (D : Dir) : Prop := ∃ i j B, sfLook curN D = some i ∧ fl[i]? = some (frm (sh m.toNat), (frm (sh m.toNat)).length) ∧ sfLook (nmF man m) D = some j ∧ fl[j]? = some (B, B.length) ∧ rpS B = some st
theorem Gd.app {m : Int} {st : St} {fl : List (List UInt8 × Nat)} {D : Dir} (h : Gd m st fl D) (x : List (List UInt8 × Nat)) : Gd m st (fl ++ x) D := by
  obtain ⟨i, j, B, h1, h2, h3, h4, h5⟩ := h
  exact ⟨i, j, B, h1, (List.getElem?_append_left (List.getElem?_eq_some_iff.1 h2).1).trans h2, h3, (List.getElem?_append_left (List.getElem?_eq_some_iff.1 h4).1).trans h4, h5⟩
theorem Gd.looks {m : Int} {st : St} {fl : List (List UInt8 × Nat)} {D E : Dir} (h : Gd m st fl D) (h1 : sfLook curN E = sfLook curN D) (h2 : sfLook (nmF man m) E = sfLook (nmF man m) D) : Gd m st fl E := by
  obtain ⟨i, j, B, g1, g2, g3, g4, g5⟩ := h
  exact ⟨i, j, B, h1.trans g1, g2, h2.trans g3, g4, g5⟩
/-- What each directory keeps: a state, few names, and names that none has. -/
def Kp (G : List (List UInt8 × Nat) → Dir → Prop) (c : Nat) (F : List UInt8 → Prop) (fl : List (List UInt8 × Nat)) (D : Dir) : Prop := G fl D ∧ D.length ≤ c ∧ ∀ nm, F nm → sfLook nm D = none
structure Re (G : List (List UInt8 × Nat) → Dir → Prop) (c : Nat) (F : List UInt8 → Prop) (s : SfS) : Prop where
  wf : SfWf s
  cr : Cr s (Kp G c F s.fls)
  sz : ∀ f ∈ s.fls, f.1.length ≤ 4000
  ro : s.room = 1048576
  fa : s.fault ≠ 4
theorem do_look {D : Dir} {nm m : List UInt8} (i : Nat) (h0 : m ≠ []) : sfLook m (sfDo D ⟨[], nm, some i⟩) = if nm = m then some i else sfLook m D := by
  show sfLook m (sfPut (nm, i) (sfDel [] D)) = _
  rw [look_put, look_del, if_neg h0]
theorem do_len (D : Dir) (nm : List UInt8) (i : Nat) : (sfDo D ⟨[], nm, some i⟩).length ≤ D.length + 1 := by
  show (sfPut (nm, i) (sfDel [] D)).length ≤ _
  have := sfPut_le (nm, i) (sfDel [] D)
  have h2 : (sfDel [] D).length ≤ D.length := List.length_filter_le _ _
  omega
theorem cur_nz : curN ≠ [] := by decide
theorem man_nz {m : Int} (h : isNo m = true) : nmF man m ≠ [] := by obtain ⟨r, e⟩ := man_front h; rw [e]; simp
theorem cur_new : curN ≠ newN := by decide
theorem SfWf.ext {s : SfS} (h : SfWf s) (nm d : List UInt8) : SfWf (mfExt s nm d).2 := by
  unfold mfExt sfThen
  split
  · exact (h.append nm (frm d)).sync nm
  · exact h.append nm (frm d)
theorem SfWf.cre {s : SfS} (h : SfWf s) (nm d : List UInt8) : SfWf (mfCre s nm d).2 := by
  unfold mfCre sfThen
  split
  · exact (h.create nm).ext nm d
  · exact h.create nm
theorem mem_app1 {fl : List (List UInt8 × Nat)} {f : List UInt8 × Nat} (h : ∀ f ∈ fl, f.1.length ≤ 4000) (hf : f.1.length ≤ 4000) : ∀ g ∈ fl ++ [f], g.1.length ≤ 4000 := fun g hg => by
  rcases List.mem_append.1 hg with hg | hg
  · exact h g hg
  · simp only [List.mem_singleton] at hg; rw [hg]; exact hf
/-- A new file beside it. -/
theorem re_cre {s : SfS} {m : Int} {st : St} {c : Nat} {F : List UInt8 → Prop} (h : Re (Gd m st) c F s) (hm : isNo m = true) (hc : c ≤ 190) {nm d : List UInt8} (hn : sfName nm = true) (hl : sfLook nm s.dir = none) (n1 : nm ≠ curN) (n2 : nm ≠ nmF man m) (hF : ∀ x, F x → x ≠ []) (hd : (frm d).length ≤ 4000) :
    ∃ e t f, mfCre s nm d = (e, t) ∧ Re (Gd m st) (c + 1) (fun x => F x ∧ nm ≠ x) t ∧ t.fls = s.fls ++ [f] ∧ (s.fault = 0 → e = 0 ∧ t.fault = 0) ∧ (e = 0 → f = (frm d, (frm d).length) ∧ sfLook nm t.dir = some s.fls.length ∧ ∀ x, x ≠ [] → nm ≠ x → sfLook x t.dir = sfLook x s.dir) := by
  obtain ⟨k1, k2, k3⟩ := h.cr.dir h.wf
  obtain ⟨e, t, f, ht, t1, t2, t3, t4, t5, t6⟩ := cre_x hn hl (by omega) h.sz h.ro hd
  have hwf : SfWf t := by have := h.wf.cre nm d; rwa [ht] at this
  have hnz : nm ≠ [] := fun z => by rw [z] at hn; simp [sfName] at hn
  have hcr : Cr s (Kp (Gd m st) (c + 1) (fun x => F x ∧ nm ≠ x) t.fls) := h.cr.mono fun D ⟨g1, g2, g3⟩ => ⟨by rw [t3]; exact g1.app _, by omega, fun x hx => g3 x hx.1⟩
  have hdo : Kp (Gd m st) (c + 1) (fun x => F x ∧ nm ≠ x) t.fls (sfDo s.dir ⟨[], nm, some s.fls.length⟩) := by
    refine ⟨?_, by have := do_len s.dir nm s.fls.length; omega, fun x hx => ?_⟩
    · rw [t3]
      exact (k1.looks (by rw [do_look _ cur_nz, if_neg n1]) (by rw [do_look _ (man_nz hm), if_neg n2])).app _
    · rw [do_look _ (hF x hx.1), if_neg hx.2]; exact k3 x hx.1
  refine ⟨e, t, f, ht, ?_, t3, t5.1, ?_⟩
  · rcases t6 with ⟨d1, d2, _⟩ | ⟨_, d1, d2⟩
    · exact ⟨hwf, cr_act h.wf hcr hdo t1 d2, by rw [t3]; exact mem_app1 h.sz t4, by rw [t2]; exact h.ro, t5.2 h.fa⟩
    · exact ⟨hwf, hcr.same t1 d2, by rw [t3]; exact mem_app1 h.sz t4, by rw [t2]; exact h.ro, t5.2 h.fa⟩
  · intro he
    rcases t6 with ⟨d1, d2, d3⟩ | ⟨d0, _, _⟩
    · refine ⟨d3 he, ?_, fun x hx hnx => ?_⟩
      · rw [d1, do_look _ hnz, if_pos rfl]
      · rw [d1, do_look _ hx, if_neg hnx]
    · exact absurd he d0
/-- The directory is synced, or it isn't. -/
theorem re_sync {s : SfS} {G : List (List UInt8 × Nat) → Dir → Prop} {c : Nat} {F : List UInt8 → Prop} (h : Re G c F s) :
    ∃ e t, sfSyncDir s = (e, t) ∧ Re G c F t ∧ t.dir = s.dir ∧ t.fls = s.fls ∧ (s.fault = 0 → e = 0 ∧ t.fault = 0) ∧ (e = 0 → t.old = s.dir ∧ t.pend = []) := by
  obtain ⟨e, p, hp, hs, hf, h4⟩ := plan_x s
  have hwf := h.wf.syncDir
  unfold sfSyncDir at hwf ⊢
  rw [hp] at hwf ⊢
  simp only at hwf ⊢
  by_cases he : e = 0
  · rw [if_pos he] at hwf ⊢
    have ho : (sfSettle p s.pend.length).old = s.dir := by
      show (p.pend.take s.pend.length).foldl sfDo p.old = _
      rw [hs.pend, hs.old, List.take_length, ← h.wf.ap]
    refine ⟨0, _, rfl, ⟨hwf, ?_, by show ∀ f ∈ p.fls, _; rw [hs.fls]; exact h.sz, by show p.room = _; rw [hs.room]; exact h.ro, (h4 h.fa).2⟩, hs.dir, hs.fls, fun z => ⟨rfl, (hf z).2⟩, fun _ => ⟨ho, rfl⟩⟩
    have := h.cr.dir h.wf
    exact cr_set (s := s) (by show Kp G c F p.fls s.dir; rw [hs.fls]; exact this) ho rfl
  · rw [if_neg he] at hwf ⊢
    exact ⟨e, p, rfl, ⟨hwf, (by rw [hs.fls]; exact h.cr.same hs.old hs.pend), by rw [hs.fls]; exact h.sz, by rw [hs.room]; exact h.ro, (h4 h.fa).2⟩, hs.dir, hs.fls, fun z => absurd (hf z).1 he, fun z => absurd z he⟩
/-- What is left of a pointer goes. -/
theorem re_rm {s : SfS} {m : Int} {st : St} {c : Nat} {F : List UInt8 → Prop} (h : Re (Gd m st) c F s) (hm : isNo m = true) :
    ∃ e t, sfRemove s newN = (e, t) ∧ Re (Gd m st) c F t ∧ t.fls = s.fls ∧ (s.fault = 0 → (e = 0 ∨ e = 4) ∧ t.fault = 0) ∧ ((e = 0 ∨ e = 4) → sfLook newN t.dir = none ∧ ∀ x, x ≠ newN → sfLook x t.dir = sfLook x s.dir) := by
  have hwf := h.wf.remove newN
  cases hl : sfLook newN s.dir with
  | none =>
    have hr : sfRemove s newN = (4, s) := by unfold sfRemove; rw [hl]
    exact ⟨4, s, hr, h, rfl, fun z => ⟨.inr rfl, z⟩, fun _ => ⟨hl, fun _ _ => rfl⟩⟩
  | some i =>
    have hr : sfRemove s newN = sfChange s ⟨newN, [], none⟩ := by unfold sfRemove; rw [hl]
    rw [hr] at hwf ⊢
    obtain ⟨k1, k2, k3⟩ := h.cr.dir h.wf
    obtain ⟨e, t, ht, t1, t2, t3, t4, t5⟩ := change_x s ⟨newN, [], none⟩
    rw [ht] at hwf ⊢
    have hdl : ∀ x, x ≠ newN → sfLook x (sfDel newN s.dir) = sfLook x s.dir := fun x hx => by rw [look_del, if_neg hx]
    have hdo : Kp (Gd m st) c F s.fls (sfDo s.dir ⟨newN, [], none⟩) := by
      show Kp (Gd m st) c F s.fls (sfDel newN s.dir)
      refine ⟨k1.looks (hdl _ cur_new) (hdl _ (Ne.symm (new_ne hm))), Nat.le_trans (List.length_filter_le _ _) k2, fun x hx => ?_⟩
      rw [look_del]
      split
      · rfl
      · exact k3 x hx
    rcases t5 with ⟨he, d1, d2⟩ | ⟨he, d1, d2⟩
    · refine ⟨e, t, rfl, ⟨hwf, by rw [t2]; exact cr_act h.wf h.cr hdo t1 d2, by rw [t2]; exact h.sz, by rw [t3]; exact h.ro, (t4.2 h.fa).2⟩, t2, fun z => ⟨.inl he, (t4.1 z).2⟩, fun _ => ?_⟩
      rw [d1]
      exact ⟨by show sfLook newN (sfDel newN s.dir) = none; rw [look_del, if_pos rfl], fun x hx => hdl x hx⟩
    · refine ⟨e, t, rfl, ⟨hwf, by rw [t2]; exact h.cr.same t1 d2, by rw [t2]; exact h.sz, by rw [t3]; exact h.ro, (t4.2 h.fa).2⟩, t2, fun z => absurd (t4.1 z).1 he, fun z => ?_⟩
      rcases z with z | z
      · exact absurd z he
      · exact absurd z (t4.2 h.fa).1
theorem re_mono {s : SfS} {G H : List (List UInt8 × Nat) → Dir → Prop} {c c' : Nat} {F F' : List UInt8 → Prop} (h : Re G c F s) (hG : ∀ D, G s.fls D → H s.fls D) (hc : c ≤ c') (hF : ∀ x, F' x → F x) : Re H c' F' s :=
  ⟨h.wf, h.cr.mono fun D ⟨g1, g2, g3⟩ => ⟨hG D g1, Nat.le_trans g2 hc, fun x hx => g3 x (hF x hx)⟩, h.sz, h.ro, h.fa⟩
/-- Save: the old state or the new one. -/
theorem save_x {s : SfS} {m n : Int} {st t : St} {c : Nat} {F : List UInt8 → Prop} (h : Re (Gd m st) c F s) (hm : isNo m = true) (hn : isNo n = true) (hmn : m ≠ n) (hc : c ≤ 100) (ht : okSt t) (hFn : F (nmF man n)) (hF : ∀ x, F x → x ≠ [] ∧ x ≠ curN ∧ x ≠ newN) :
    ∃ e u, mfSave s n t = (e, u) ∧ Re (fun fl D => Gd m st fl D ∨ Gd n t fl D) (c + 3) (fun x => F x ∧ nmF man n ≠ x) u ∧ (e = 0 → Re (Gd n t) (c + 3) (fun x => F x ∧ nmF man n ≠ x) u) ∧ (s.fault = 0 → e = 0 ∧ u.fault = 0) := by
  have hnm : nmF man n ≠ nmF man m := fun z => hmn (man_inj hn hm z).symm
  have hF1 : ∀ x, F x → x ≠ [] := fun x hx => (hF x hx).1
  have hOld : ∀ {u : SfS} {c' : Nat}, Re (Gd m st) c' (fun x => F x ∧ nmF man n ≠ x) u → c' ≤ c + 3 → Re (fun fl D => Gd m st fl D ∨ Gd n t fl D) (c + 3) (fun x => F x ∧ nmF man n ≠ x) u := fun hu hc => re_mono hu (fun _ g => .inl g) hc (fun _ hx => hx)
  unfold mfSave
  rw [if_pos ⟨ht, hn⟩]
  unfold mfSv
  obtain ⟨e1, s1, f1, a1, a2, a3, a4, a5⟩ := re_cre (d := stB t) h hm (by omega) (man_name hn) ((h.cr.dir h.wf).2.2 _ hFn) (Ne.symm (cur_ne hn)) hnm hF1 (by have := stB_len ht; omega)
  rw [a1]
  by_cases z1 : e1 = 0
  · subst z1
    rw [sfThen_0]
    obtain ⟨b1, b2, b3⟩ := a5 rfl
    obtain ⟨e2, s2, c1, c2, c3, c4, c5, _⟩ := re_sync a2
    rw [c1]
    by_cases z2 : e2 = 0
    · subst z2
      rw [sfThen_0]
      unfold mfRm
      obtain ⟨e3, s3, d1, d2, d3, d4, d5⟩ := re_rm c2 hm
      rw [d1]
      simp only
      by_cases z3 : e3 = 0 ∨ e3 = 4
      · rw [if_pos z3]
        obtain ⟨g1, g2⟩ := d5 z3
        unfold mfPt
        have hFr : ∀ x, (F x ∧ nmF man n ≠ x) → x ≠ [] := fun x hx => hF1 x hx.1
        obtain ⟨e4, s4, f4, i1, i2, i3, i4, i5⟩ := re_cre (d := sh n.toNat) d2 hm (by omega) (nm := newN) (by decide) g1 (Ne.symm cur_new) (new_ne hm) hFr (by have := ptB_len hn; omega)
        rw [i1]
        have i2' : Re (Gd m st) (c + 1 + 1) (fun x => F x ∧ nmF man n ≠ x) s4 := re_mono i2 (fun _ g => g) (Nat.le_refl _) (fun x hx => ⟨hx, Ne.symm (hF x hx.1).2.2⟩)
        by_cases z4 : e4 = 0
        · subst z4
          rw [sfThen_0]
          obtain ⟨j1, j2, j3⟩ := i5 rfl
          have hlk : sfLook newN s4.dir = some s3.fls.length := j2
          have hrn : sfRename s4 newN curN = sfChange s4 ⟨newN, curN, some s3.fls.length⟩ := by
            unfold sfRename
            rw [if_neg (by decide), hlk]
          have hwf5 := i2.wf.rename newN curN
          obtain ⟨e5, s5, k1, k2, k3, k4, k5, k6⟩ := change_x s4 ⟨newN, curN, some s3.fls.length⟩
          rw [hrn, k1] at hwf5
          rw [hrn, k1]
          have hfls : s4.fls = s.fls ++ [f1] ++ [f4] := by rw [i3, d3, c4, a3]
          have hnmz := man_nz hn
          have hlen3 : s3.fls.length = s.fls.length + 1 := by rw [d3, c4, a3]; simp
          have hlkn : sfLook (nmF man n) s4.dir = some s.fls.length := by
            rw [j3 _ hnmz (new_ne hn), g2 _ (Ne.symm (new_ne hn)), c3]; exact b2
          have hdir : ∀ x, sfLook x (sfDo s4.dir ⟨newN, curN, some s3.fls.length⟩) = if curN = x then some s3.fls.length else if x = newN then none else sfLook x s4.dir := fun x => by
            show sfLook x (sfPut (curN, s3.fls.length) (sfDel newN s4.dir)) = _
            rw [look_put, look_del]
          have hNew : Kp (Gd n t) (c + 3) (fun x => F x ∧ nmF man n ≠ x) s4.fls (sfDo s4.dir ⟨newN, curN, some s3.fls.length⟩) := by
            obtain ⟨q1, q2, q3⟩ := i2'.cr.dir i2'.wf
            refine ⟨⟨s3.fls.length, s.fls.length, frm (stB t), ?_, ?_, ?_, ?_, (rpa_one ht).rpS ?_⟩, ?_, fun x hx => ?_⟩
            · rw [hdir, if_pos rfl]
            · rw [hfls, hlen3, j1]; simp
            · rw [hdir, if_neg (cur_ne hn), if_neg (Ne.symm (new_ne hn))]; exact hlkn
            · rw [hfls, b1]; simp
            · have : frm (stB t) = cat [stB t] := by simp [cat]
              rw [this]
              exact fm_cat (fun d hd => by simp only [List.mem_singleton] at hd; rw [hd]; exact stB_le ht)
            · show (sfPut (curN, s3.fls.length) (sfDel newN s4.dir)).length ≤ _
              have p1 := sfPut_le (curN, s3.fls.length) (sfDel newN s4.dir)
              have p2 : (sfDel newN s4.dir).length ≤ s4.dir.length := List.length_filter_le _ _
              omega
            · rw [hdir, if_neg (Ne.symm (hF x hx.1).2.1), if_neg (hF x hx.1).2.2]; exact q3 x hx
          have hOldC : Cr s4 (Kp (fun fl D => Gd m st fl D ∨ Gd n t fl D) (c + 3) (fun x => F x ∧ nmF man n ≠ x) s4.fls) := (hOld i2' (by omega)).cr
          have hR5 : Re (fun fl D => Gd m st fl D ∨ Gd n t fl D) (c + 3) (fun x => F x ∧ nmF man n ≠ x) s5 := by
            rcases k6 with ⟨_, l1, l2⟩ | ⟨_, l1, l2⟩
            · exact ⟨hwf5, by rw [k3]; exact cr_act i2.wf hOldC ⟨.inr hNew.1, hNew.2⟩ k2 l2, by rw [k3]; exact i2.sz, by rw [k4]; exact i2.ro, (k5.2 i2.fa).2⟩
            · exact ⟨hwf5, by rw [k3]; exact hOldC.same k2 l2, by rw [k3]; exact i2.sz, by rw [k4]; exact i2.ro, (k5.2 i2.fa).2⟩
          by_cases z5 : e5 = 0
          · subst z5
            rw [sfThen_0]
            obtain ⟨e6, s6, m1, m2, m3, m4, m5, m6⟩ := re_sync hR5
            rw [m1]
            refine ⟨e6, s6, rfl, m2, fun z => ?_, fun z => m5 (k5.1 (i4 (d4 (c5 (a4 z).2).2).2).2).2⟩
            obtain ⟨o1, o2⟩ := m6 z
            rcases k6 with ⟨_, l1, _⟩ | ⟨l0, _, _⟩
            · exact ⟨m2.wf, cr_set (s := s5) (by rw [m4, k3, l1]; exact hNew) o1 o2, m2.sz, m2.ro, m2.fa⟩
            · exact absurd rfl l0
          · exact ⟨e5, s5, sfThen_no (r := (e5, s5)) z5 _, hR5, fun z => absurd z z5, fun z => absurd (k5.1 (i4 (d4 (c5 (a4 z).2).2).2).2).1 z5⟩
        · exact ⟨e4, s4, sfThen_no (r := (e4, s4)) z4 _, hOld i2' (by omega), fun z => absurd z z4, fun z => absurd (i4 (d4 (c5 (a4 z).2).2).2).1 z4⟩
      · rw [if_neg z3]
        exact ⟨e3, s3, rfl, hOld d2 (by omega), fun z => absurd (.inl z) z3, fun z => absurd (d4 (c5 (a4 z).2).2).1 z3⟩
    · exact ⟨e2, s2, sfThen_no (r := (e2, s2)) z2 _, hOld c2 (by omega), fun z => absurd z z2, fun z => absurd (c5 (a4 z).2).1 z2⟩
  · exact ⟨e1, s1, sfThen_no (r := (e1, s1)) z1 _, hOld a2 (by omega), fun z => absurd z z1, fun z => absurd (a4 z).1 z1⟩
end Go.Proofs.YtilbffgpniomcaaGreatDoor
