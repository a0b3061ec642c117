/-
  look: what stands in the logical block.
  look: what stands while it walks.
  look: what stands in the logical block: the walk.
  What look makes of the payloads, told plainly; refused.
  A master in memory: Record, Saves; nil's answers.
-/
import Derived.Test.YtkfecngkdlajgaaGreatDoorXRD
import Derived.Test.YtkfecngkdlajgaaGreatDoorXRA
import Derived.Test.YtkfecngkdlajgaaGreatDoorQK
import Derived.Test.YtkfecngkdlajgaaGreatDoorQV
import Derived.Test.YtkfecngkdlajgaaGreatDoorKA
import Derived.Laws.ResultCell
import Derived.Deep.RegionWith
namespace Go.Proofs.YtkfecngkdlajgaaGreatDoor
open Go.RowKit Go.Extern.Stop Go.Stop Go.Extern
set_option maxRecDepth 10000

/-- What is left behind a superblock's reading. -/
def supS (want : List Nat) : List (List Nat) → List (List Nat) × Int
  | [] => ([], 117)
  | p :: tl => (tl, if p = want then 0 else 117)
/-- A record's reading: the record, what is left. -/
def recS : List (List Nat) → Int → Value × List (List Nat) × Int
  | [], x => (recV0, [], wrg x)
  | p :: tl, x => if x = 0 then (if isRec p then (recV p, tl, 0) else (recV0, tl, 117)) else (recV0, p :: tl, wrg x)
theorem recS_cons (p : List Nat) (tl : List (List Nat)) (x : Int) : recS (p :: tl) x = if x = 0 then (if isRec p then (recV p, tl, 0) else (recV0, tl, 117)) else (recV0, p :: tl, wrg x) := rfl
theorem recS_form (ps : List (List Nat)) (x : Int) : ∃ (a : Nat) (S : ByteArray), (recS ps x).1 = .agg #[.int .u64 (a : Nat), .string S] := by
  cases ps with
  | nil => exact ⟨0, _, rfl⟩
  | cons p tl =>
    rw [recS_cons]
    split
    · split
      · exact ⟨_, _, rfl⟩
      · exact ⟨0, _, rfl⟩
    · exact ⟨0, _, rfl⟩
theorem super_all (rp : Nat) (a : Option Addr) (cap : Nat) (want : List Nat) (ps : List (List Nat)) (n0 : Nat) (w : World) (h : XRd n0 w rp ps 0) (hw : ∀ x ∈ want, x < 256) (ha : BRow w a want) (hne : ∀ b o m, a = some ⟨b, o, m⟩ → b ≠ rp) (h1 : want ≠ []) :
    Calls Tryz.prog 58 #[.pointer (some ⟨rp, 0, none⟩), .slice a want.length cap] w fun e w' => e = .returned (.tuple #[]) ∧ XRd n0 w' rp (supS want ps).1 (supS want ps).2 ∧ Kept (fun k => k = rp) w w' := by
  cases ps with
  | nil => exact super_no rp a cap want n0 w h hw ha h1
  | cons p tl => exact super_go rp a cap want p tl n0 w h hw ha hne
theorem record_all (rp : Nat) (ps : List (List Nat)) (x : Int) (n0 : Nat) (w : World) (h : XRd n0 w rp ps x) :
    Calls Tryz.prog 60 #[.pointer (some ⟨rp, 0, none⟩)] w fun e w' => e = .returned (recS ps x).1 ∧ XRd n0 w' rp (recS ps x).2.1 (recS ps x).2.2 ∧ Kept (fun k => k = rp) w w' := by
  cases ps with
  | nil => exact record_no rp [] x n0 w h (fun q => q.2 rfl)
  | cons p tl =>
    by_cases hx : x = 0
    · subst hx
      rw [recS_cons, if_pos rfl]
      by_cases hp : isRec p = true
      · rw [if_pos hp]; exact record_yes rp p tl n0 w h hp
      · rw [if_neg hp]; exact record_bad rp p tl n0 w h (by simpa using hp)
    · rw [recS_cons, if_neg hx]
      exact record_no rp (p :: tl) x n0 w h (fun q => hx q.1)
/-- The loop of look. -/
def finS : List (List Nat) → Int → Value → Nat → Value × Nat × Int
  | [], x, v, k => (v, k, x)
  | p :: tl, x, v, k => if x = 0 then (if isRec p then finS tl 0 (recV p) (k + 1) else finS tl 117 recV0 (k + 1)) else (v, k, x)
theorem finS_step (p : List Nat) (tl : List (List Nat)) (v : Value) (k : Nat) : finS (p :: tl) 0 v k = finS (recS (p :: tl) 0).2.1 (recS (p :: tl) 0).2.2 (recS (p :: tl) 0).1 (k + 1) := by
  rw [recS_cons, if_pos rfl]
  show (if (0 : Int) = 0 then _ else _) = _
  rw [if_pos rfl]
  split <;> rfl
theorem finS_stop (ps : List (List Nat)) (x : Int) (v : Value) (k : Nat) (h : ¬ (x = 0 ∧ ps ≠ [])) : finS ps x v k = (v, k, x) := by
  cases ps with
  | nil => rfl
  | cons p tl =>
    show (if x = 0 then _ else _) = _
    rw [if_neg (fun q => h ⟨q, by simp⟩)]
/-- What look makes of the payloads. -/
def lookF (want : List Nat) (ps : List (List Nat)) : Value × Nat × Int :=
  finS (recS (supS want ps).1 (supS want ps).2).2.1 (recS (supS want ps).1 (supS want ps).2).2.2 (recS (supS want ps).1 (supS want ps).2).1 1
end Go.Proofs.YtkfecngkdlajgaaGreatDoor
namespace Go.Proofs.YtkfecngkdlajgaaGreatDoor
open Go.RowKit Go.Extern.Stop Go.Stop Go.Extern
set_option maxRecDepth 10000

theorem XRd.setOther {n0 : Nat} {w : World} {rp : Nat} {rest : List (List Nat)} {x : Int} {B i : Nat} {cs : List Value} {T : TypeId} (v : Value) (h : XRd n0 w rp rest x) (hr : Row w B cs T) (hT : 176 ≠ T) (hB : n0 ≤ B) : XRd n0 (w.setCell ⟨B, i, none⟩ v) rp rest x := by
  obtain ⟨v1, ev, h1, h2, h3, h4, h5⟩ := h
  have hk : Kept (fun k => k = B) w (w.setCell ⟨B, i, none⟩ v) := Kept.setCell (S := fun k => k = B) (Kept.refl _ w) (p := ⟨B, i, none⟩) rfl _
  refine ⟨v1, ev, h1.kept hk (by show ¬ rp = B; omega), h2.kept hk (fun k q => by show k = rp ∨ n0 ≤ k; have q' : k = B := q; omega), ?_, h4, Nat.le_trans h5 hk.size⟩
  rcases h3 with h | ⟨h0, C, what, e1, e2⟩
  · exact .inl h
  · exact .inr ⟨h0, C, what, e1, e2.kept hk (e2.ne hr hT)⟩
theorem XRd.new {base : Nat} {w : World} {v : Value} {fs : List Fm} (h : FBk base w v fs) (hp : ∀ x ∈ fs, ∀ y ∈ x.2, y < 256) : XRd (w.heap.size + 1) (w.alloc (.cells #[v, .nilIface] 125)) w.heap.size (fs.map (·.2)) 0 :=
  ⟨v, .nilIface, Row.new w [_, _] _, (FBk.view h hp (Nat.le_refl _) (Nat.lt_succ_self _)).kept (S := fun _ => False) (.of_below (below_new w _)) (fun _ q => q.elim), .inl ⟨rfl, rfl⟩, Nat.lt_succ_self _, by simp⟩
theorem OpenP.later {base t : Nat} {w w1 w2 : World} {m : Mg} {c : CS} {P : List (List (List Nat))} {leb : Nat} {l : Lm} (h : OpenP base t w m c P leb l w1) (hb : Below w1.heap.size w1 w2) : OpenP base t w m c P leb l w2 :=
  ⟨h.ml.later hb, h.lb, h.fs, h.dl, h.sp, h.kp.later hb, h.nu⟩
theorem OpenP.from {base t : Nat} {w w1 w2 : World} {m : Mg} {c : CS} {P : List (List (List Nat))} {leb : Nat} {l : Lm} (h : OpenP base t w1 m c P leb l w2) (hb : Below w.heap.size w w1) : OpenP base t w m c P leb l w2 :=
  ⟨h.ml, h.lb, h.fs, h.dl, h.sp, (Kept.of_below hb).trans h.kp, fun k hk => Nat.le_trans hb.size (h.nu k hk)⟩
theorem ML.bytes {base t : Nat} {w : World} {m : Mg} {c : CS} {P : List (List (List Nat))} {l : Lm} (h : ML base t w m c P l) : ∀ x ∈ l.fs, ∀ y ∈ x.2, y < 256 := by
  intro x hx y hy
  obtain ⟨_, _, h3, _⟩ := h.fr.at_ x hx
  rw [← h3] at hy
  exact h.la.lt y (List.mem_of_mem_drop (List.mem_of_mem_take hy))
/-- Behind Open, w1, while the reader walks. -/
structure XLo (w1 w : World) (rp : Nat) (ps : List (List Nat)) (x : Int) : Prop where
  be : Below w1.heap.size w1 w
  ge : w1.heap.size ≤ rp
  rd : XRd (rp + 1) w rp ps x
theorem XLo.step {w1 w w' : World} {rp : Nat} {ps ps' : List (List Nat)} {x x' : Int} (h : XLo w1 w rp ps x) (hr : XRd (rp + 1) w' rp ps' x') (hk : Kept (fun k => k = rp) w w') : XLo w1 w' rp ps' x' :=
  ⟨h.be.trans (hk.below h.be.size fun k q => by have q' : k = rp := q; have := h.ge; omega), h.ge, hr⟩
theorem XLo.later {w1 w w' : World} {rp : Nat} {ps : List (List Nat)} {x : Int} (h : XLo w1 w rp ps x) (hb : Below w.heap.size w w') : XLo w1 w' rp ps x :=
  ⟨h.be.trans (hb.mono h.be.size), h.ge, h.rd.later hb⟩
theorem XLo.set {w1 w : World} {rp : Nat} {ps : List (List Nat)} {x : Int} {B i : Nat} {cs : List Value} (v : Value) (h : XLo w1 w rp ps x) (hr : Row w B cs 80) (hB : rp < B) : XLo w1 (w.setCell ⟨B, i, none⟩ v) rp ps x :=
  ⟨Below.setCell h.be (by have := h.ge; show _ ≤ B; omega) _, h.ge, h.rd.setOther v hr (by decide) hB⟩
theorem XLo.new {base t : Nat} {w0 w1 w2 : World} {m : Mg} {c : CS} {P : List (List (List Nat))} {l : Lm} {v : Value} (h : OpenP base t w0 m c P 0 l w1) (hf : FBk w1.heap.size w2 v l.fs) (hb : Below w1.heap.size w1 w2) :
    XLo w1 (w2.alloc (.cells #[v, .nilIface] 125)) w2.heap.size (l.fs.map (·.2)) 0 :=
  ⟨hb.trans ((below_new w2 _).mono hb.size), hb.size, XRd.new hf h.ml.bytes⟩
end Go.Proofs.YtkfecngkdlajgaaGreatDoor
namespace Go.Proofs.YtkfecngkdlajgaaGreatDoor
open Go.RowKit Go.Extern.Stop Go.Stop Go.Extern
set_option maxRecDepth 10000

/-- What look answers, told of the payloads. -/
def LookE (w' : World) (l : Lm) (F : Value × Nat × Int) (e : Ending) : Prop :=
  (F.2.2 = 0 → ∃ (a : Nat) (S : ByteArray), F.1 = .agg #[.int .u64 (a : Nat), .string S] ∧ e = .returned (.tuple #[.agg #[.pointer (some ⟨l.p, 0, none⟩), .int .u64 (a : Nat), .string S, .int .i64 (F.2.1 : Nat)], .nilIface])) ∧
  (F.2.2 ≠ 0 → ∃ v s, e = .returned (.tuple #[s, v]) ∧ ErX w' v F.2.2)
/-- The loop of look. -/
structure XLi (w1 w : World) (rp sB lp : Nat) (ps : List (List Nat)) (x : Int) (a : Nat) (S : ByteArray) (k : Nat) : Prop where
  st : XLo w1 w rp ps x
  sb : Row w sB [.pointer (some ⟨lp, 0, none⟩), .int .u64 (a : Nat), .string S, .int .i64 (k : Nat)] 80
  lt : rp < sB
theorem XLi.new {w1 w : World} {rp lp : Nat} {ps : List (List Nat)} {x : Int} {a : Nat} {S : ByteArray} (h : XLo w1 w rp ps x) : XLi w1 (w.alloc (.cells #[.pointer (some ⟨lp, 0, none⟩), .int .u64 (a : Nat), .string S, .int .i64 1] 80)) rp w.heap.size lp ps x a S 1 :=
  ⟨h.later (below_new w _), Row.new w [_, _, _, _] _, by obtain ⟨_, _, hr, _⟩ := h.rd; exact hr.lt⟩
theorem XLi.step {w1 w w' : World} {rp sB lp : Nat} {ps ps' : List (List Nat)} {x x' : Int} {a : Nat} {S : ByteArray} {k : Nat} (h : XLi w1 w rp sB lp ps x a S k) (hr : XRd (rp + 1) w' rp ps' x') (hk : Kept (fun k => k = rp) w w') : XLi w1 w' rp sB lp ps' x' a S k :=
  ⟨h.st.step hr hk, h.sb.kept hk (by have := h.lt; show ¬ sB = rp; omega), h.lt⟩
theorem XLi.cells {w1 w : World} {rp sB lp : Nat} {ps : List (List Nat)} {x : Int} {a : Nat} {S : ByteArray} {k : Nat} (h : XLi w1 w rp sB lp ps x a S k) :
    w.cell? ⟨sB, 0, none⟩ = some (.pointer (some ⟨lp, 0, none⟩)) ∧ w.cell? ⟨sB, 1, none⟩ = some (.int .u64 (a : Nat)) ∧ w.cell? ⟨sB, 2, none⟩ = some (.string S) ∧ w.cell? ⟨sB, 3, none⟩ = some (.int .i64 (k : Nat)) ∧ w.frozen? ⟨sB, 1, none⟩ = false ∧ w.frozen? ⟨sB, 2, none⟩ = false ∧ w.frozen? ⟨sB, 3, none⟩ = false :=
  ⟨h.sb.cell (i := 0) rfl, h.sb.cell (i := 1) rfl, h.sb.cell (i := 2) rfl, h.sb.cell (i := 3) rfl, h.sb.frozen 1, h.sb.frozen 2, h.sb.frozen 3⟩
theorem XLi.put {w1 w : World} {rp sB lp : Nat} {ps : List (List Nat)} {x : Int} {a : Nat} {S : ByteArray} {k : Nat} (h : XLi w1 w rp sB lp ps x a S k) (a' : Nat) (S' : ByteArray) (k' : Nat) :
    XLi w1 (((w.setCell ⟨sB, 1, none⟩ (.int .u64 (a' : Nat))).setCell ⟨sB, 2, none⟩ (.string S')).setCell ⟨sB, 3, none⟩ (.int .i64 (k' : Nat))) rp sB lp ps x a' S' k' := by
  have r1 := h.sb.set (i := 1) (.int .u64 (a' : Nat)) (by simp)
  have r2 := r1.set (i := 2) (.string S') (by simp)
  have r3 := r2.set (i := 3) (.int .i64 (k' : Nat)) (by simp)
  exact ⟨((h.st.set _ h.sb h.lt).set _ r1 h.lt).set _ r2 h.lt, r3, h.lt⟩
theorem Ms.base_le {base t : Nat} {w : World} {m : Mg} {c : CS} {P : List (List (List Nat))} (h : Ms base t w m c P) : base ≤ w.heap.size := by
  have h1 := h.ml.low.1
  have h2 := h.ml.box.lt
  omega
theorem OpenP.set {base t : Nat} {w w1 : World} {m : Mg} {c : CS} {P : List (List (List Nat))} {leb : Nat} {l : Lm} {B i : Nat} {cs : List Value} (v : Value) (h : OpenP base t w m c P leb l w1) (hr : Row w1 B cs 80) (hb : base ≤ B) (hB : w.heap.size ≤ B) (hn : ∀ k, LFoot l k → k ≠ B) : OpenP base t w m c P leb l (w1.setCell ⟨B, i, none⟩ v) := by
  have hk : Kept (fun k => k = B) w1 (w1.setCell ⟨B, i, none⟩ v) := Kept.setCell (S := fun k => k = B) (Kept.refl _ w1) (p := ⟨B, i, none⟩) rfl _
  exact ⟨h.ml.beside hk (fun k q => ⟨cs, 80, by rw [show k = B from q]; exact hr, by unfold NoMg; decide⟩) (fun k q => by rw [show k = B from q]; exact hb) (fun k q e => hn k q e), h.lb, h.fs, h.dl, h.sp, h.kp.setNew (p := ⟨B, i, none⟩) hB v, h.nu⟩
theorem ErX.set {w1 : World} {B i : Nat} {cs : List Value} {ev : Value} {x : Int} (v : Value) (h : ErX w1 ev x) (hr : Row w1 B cs 80) : ErX (w1.setCell ⟨B, i, none⟩ v) ev x := by
  have hk : Kept (fun k => k = B) w1 (w1.setCell ⟨B, i, none⟩ v) := Kept.setCell (S := fun k => k = B) (Kept.refl _ w1) (p := ⟨B, i, none⟩) rfl _
  rcases h with h | ⟨h0, C, what, e1, e2⟩
  · exact .inl h
  · exact .inr ⟨h0, C, what, e1, e2.kept hk (e2.ne hr (by decide))⟩
/-- Behind the result's variable is written. -/
theorem look_fin {base t : Nat} {w w1 : World} {m : Mg} {c : CS} {P : List (List (List Nat))} {leb : Nat} {l : Lm} {B : Nat} {a0 a1 a2 a3 : Value} {ev : Value} {x : Int} (h : OpenP base t w m c P leb l w1) (he : ErX w1 ev x) (hr : Row w1 B [a0, a1, a2, a3] 80) (hb : base ≤ B) (hB : w.heap.size ≤ B) (hn : ∀ k, LFoot l k → k ≠ B) (t0 t1 t2 t3 : Value) :
    OpenP base t w m c P leb l ((((w1.setCell ⟨B, 0, none⟩ t0).setCell ⟨B, 1, none⟩ t1).setCell ⟨B, 2, none⟩ t2).setCell ⟨B, 3, none⟩ t3) ∧ ErX ((((w1.setCell ⟨B, 0, none⟩ t0).setCell ⟨B, 1, none⟩ t1).setCell ⟨B, 2, none⟩ t2).setCell ⟨B, 3, none⟩ t3) ev x := by
  have r1 := hr.set (i := 0) t0 (by simp)
  have r2 := r1.set (i := 1) t1 (by simp)
  have r3 := r2.set (i := 2) t2 (by simp)
  exact ⟨((((h.set t0 hr hb hB hn).set t1 r1 hb hB hn).set t2 r2 hb hB hn).set t3 r3 hb hB hn), (((he.set t0 hr).set t1 r1).set t2 r2).set t3 r3⟩
theorem recS_sup_len (WT : List Nat) (fs : List Fm) : (recS (supS WT (fs.map (·.2))).1 (supS WT (fs.map (·.2))).2).2.1.length ≤ fs.length := by
  have h1 : (supS WT (fs.map (·.2))).1.length ≤ fs.length := by
    cases fs with
    | nil => exact Nat.le_refl _
    | cons x l => simp [supS]
  have h2 : ∀ (ps : List (List Nat)) (x : Int), (recS ps x).2.1.length ≤ ps.length := by
    intro ps x
    cases ps with
    | nil => exact Nat.le_refl _
    | cons p tl =>
      rw [recS_cons]
      split
      · split <;> simp
      · simp
  exact Nat.le_trans (h2 _ _) h1
theorem supN_lt (x : List Int) (k : Nat) : ∀ y ∈ supN x k, y < 256 := by
  intro y hy
  unfold supN at hy
  rcases List.mem_append.1 hy with h | h
  · simp at h
    omega
  · obtain ⟨n, _, hn⟩ := List.mem_flatMap.1 h
    exact Hd.M.putL_lt _ _ y hn
theorem recS_left (p : List Nat) (tl : List (List Nat)) : (recS (p :: tl) 0).2.1 = tl := by
  rw [recS_cons, if_pos rfl]
  split <;> rfl
set_option maxHeartbeats 8000000 in
theorem xlook_any {base t : Nat} {w : World} {m : Mg} {c : CS} {P : List (List (List Nat))} (h : Ms base t w m c P) (hleb : ((0 : Nat) : Int) + c.gr + 2 < c.gb) :
    Calls Tryz.prog 28 #[.pointer (some ⟨m.p, 0, none⟩)] w fun e w' => ∃ l, OpenP base t w m c P 0 l w' ∧ LookE w' l (lookF (supN [c.gb, c.gp, c.gz, c.gr] 4) (l.fs.map (·.2))) e := by
  obtain ⟨W, hW⟩ : ∃ W, W = w.alloc (.cells #[.pointer none, .int .u64 0, .string ⟨#[]⟩, .int .i64 0] 80) := ⟨_, rfl⟩
  have hbW : Below w.heap.size w W := by rw [hW]; exact below_new _ _
  have hrW : Row W w.heap.size [.pointer none, .int .u64 0, .string ⟨#[]⟩, .int .i64 0] 80 := by rw [hW]; exact Row.new w [_, _, _, _] _
  have kO : Calls Tryz.prog 55 #[.pointer (some ⟨m.p, 0, none⟩), .int .i64 0] W fun e w' => ∃ l, e = .returned (.tuple #[.pointer (some ⟨l.p, 0, none⟩), .int .i64 0]) ∧ OpenP base t W m c P 0 l w' := open_any (h.later hbW) 0 hleb
  have HW := (show Hid (Below w.heap.size w W ∧ Row W w.heap.size [.pointer none, .int .u64 0, .string ⟨#[]⟩, .int .i64 0] 80) from ⟨hbW, hrW⟩)
  have HBs := (show Hid (base ≤ w.heap.size ∧ w.heap.size < W.heap.size) from ⟨h.base_le, by rw [hW]; simp⟩)
  have HBs2 := (show Hid (w.heap.size ≠ m.p) from Nat.ne_of_gt h.ml.box.lt)
  have HSW := (show Hid (∀ x ∈ supN [(c.gb : Int), c.gp, c.gz, c.gr] 4, x < 256) from supN_lt _ _)
  have kS := super_any c.gb c.gp c.gz c.gr
  obtain ⟨WT, hWT⟩ : ∃ WT, WT = supN [(c.gb : Int), c.gp, c.gz, c.gr] 4 := ⟨_, rfl⟩
  have HWN := (show Hid (WT ≠ []) from by rw [hWT]; exact fun q => by cases q)
  rw [← hWT] at HSW kS ⊢
  clear hleb h hbW hrW hWT
  go_enter Tryz.func28, Tryz.ntmps28
  go_wp2_with fail
  rw [← hW]
  clear hW
  have M1 : Hid True := trivial
  go_wp2_with (first
    | (go_at_call 55; refine kO.mono ?_; rintro e w1 ⟨l, rfl, ho1⟩; have HO := (show Hid (OpenP base t W m c P 0 l w1) from ho1); have HR1 := (show Hid (Row w1 w.heap.size [.pointer none, .int .u64 0, .string ⟨#[]⟩, .int .i64 0] 80) from HW.out.2.kept ho1.kp (fun e => HBs2.out e)); clear ho1 kO)
    | (go_at_call 57; refine (frames_any HO.out.ml).mono ?_; rintro e w2 ⟨v2, rfl, hf2, hb2⟩; obtain ⟨a2, n2, p2, rfl⟩ : ∃ a n p, v2 = .slice a n p := (by obtain ⟨_, _, q, _⟩ := hf2; obtain ⟨a, p, e⟩ := own_form q; exact ⟨a, _, p, e⟩); have HX0 := (show Hid (XLo w1 _ w2.heap.size (l.fs.map (·.2)) 0) from XLo.new HO.out hf2 hb2); clear hf2 hb2)
    | (go_at_call 9; refine (mchip_any (HO.out.later HX0.out.be).ml.ms.ml).mono ?_; rintro e w3 ⟨rfl, rfl⟩)
    | (go_at_call 59; refine (geometry_any (HO.out.later HX0.out.be).ml.ms.ml.chip).mono ?_; rintro e w3 ⟨rfl, hb3⟩; have HX3 := (show Hid (XLo w1 w3 w2.heap.size (l.fs.map (·.2)) 0) from HX0.out.later hb3); clear hb3)
    | (go_at_call 21; refine (kS w3).mono ?_; rintro e w4 ⟨v4, rfl, ho4⟩; obtain ⟨a4, p4, rfl, hr4, _, _⟩ := ho4.row; have HX4 := (show Hid (XLo w1 w4 w2.heap.size (l.fs.map (·.2)) 0 ∧ BRow w4 a4 WT ∧ ∀ b o m, a4 = some ⟨b, o, m⟩ → b ≠ w2.heap.size) from ⟨HX3.out.later ho4.2, hr4, fun b o m e => by obtain ⟨_, _, q2, _⟩ := HX3.out.rd; have := q2.lt; have := (lown_row ho4.1 (g := b) (by subst e; rfl)).1; omega⟩); clear ho4 hr4)
    | (go_at_call 58; refine (super_all w2.heap.size a4 _ WT _ _ w4 HX4.out.1.rd HSW.out HX4.out.2.1 HX4.out.2.2 HWN.out).mono ?_; rintro e w5 ⟨rfl, hx5, hk5⟩; have HX5 := (show Hid (XLo w1 w5 w2.heap.size (supS WT (l.fs.map (·.2))).1 (supS WT (l.fs.map (·.2))).2) from HX4.out.1.step hx5 hk5); clear hx5 hk5)
    | (go_at_call 60; clear M1; refine (record_all w2.heap.size _ _ _ w5 HX5.out.rd).mono ?_; rintro e w6 ⟨rfl, hx6, hk6⟩; obtain ⟨ra, rS, re⟩ := recS_form (supS WT (l.fs.map (·.2))).1 (supS WT (l.fs.map (·.2))).2; rw [re]; obtain ⟨ps6, x6, HX6⟩ : ∃ ps6 x6, Hid (XLo w1 w6 w2.heap.size ps6 x6 ∧ lookF WT (l.fs.map (·.2)) = finS ps6 x6 (.agg #[.int .u64 (ra : Nat), .string rS]) 1 ∧ ps6.length ≤ l.fs.length) := ⟨_, _, HX5.out.step hx6 hk6, by rw [← re]; rfl, recS_sup_len _ _⟩; clear hx6 hk6 re))
  have HLn := (show Hid (l.fs.length ≤ 31744) from by have h1 := HO.out.ml.fr.count; have h2 := HO.out.ml.size; show _ ≤ _; omega)
  have HI0 := (show Hid (∃ (ps : List (List Nat)) (x : Int) (a : Nat) (S : ByteArray) (k : Nat), XLi w1 (w6.alloc (.cells #[.pointer (some ⟨l.p, 0, none⟩), .int .u64 (ra : Nat), .string rS, .int .i64 1] 80)) w2.heap.size w6.heap.size l.p ps x a S k ∧ lookF WT (l.fs.map (·.2)) = finS ps x (.agg #[.int .u64 (a : Nat), .string S]) k ∧ k + ps.length ≤ 40000 ∧ ps.length ≤ 40000 - 1) from ⟨ps6, x6, ra, rS, 1, XLi.new HX6.out.1, HX6.out.2.1, by have := HX6.out.2.2; have := HLn.out; omega, by have := HX6.out.2.2; have := HLn.out; omega⟩)

  obtain ⟨WL, hWL⟩ : ∃ WL, WL = w6.alloc (.cells #[.pointer (some ⟨l.p, 0, none⟩), .int .u64 (ra : Nat), .string rS, .int .i64 1] 80) := ⟨_, rfl⟩
  rw [← hWL] at HI0 ⊢
  clear hWL
  obtain ⟨sB, hsB⟩ : ∃ sB, sB = w6.heap.size := ⟨_, rfl⟩
  rw [← hsB] at HI0 ⊢
  obtain ⟨rp, hrp⟩ : ∃ rp, rp = w2.heap.size := ⟨_, rfl⟩
  rw [← hrp] at HI0 ⊢
  clear hsB hrp HX6 HX5 HX4 HX3 HX0
  go_loopg [] 40000 (fun g wr => Hid (∃ (ps : List (List Nat)) (x : Int) (a : Nat) (S : ByteArray) (k : Nat), XLi w1 wr rp sB l.p ps x a S k ∧ lookF WT (l.fs.map (·.2)) = finS ps x (.agg #[.int .u64 (a : Nat), .string S]) k ∧ k + ps.length ≤ 40000 ∧ ps.length ≤ g))
  case atStart =>
    obtain ⟨ps, x, a, S, k, q1, q2, q3, q4⟩ := HI0.out
    exact ⟨ps, x, a, S, k, q1, q2, q3, by omega⟩
  case round =>
    obtain ⟨ps, x, a, S, k, q1, q2, q3, q4⟩ := hrel.out
    have HI := (show Hid (XLi w1 wr rp sB l.p ps x a S k) from q1)
    have HQ := (show Hid (lookF WT (l.fs.map (·.2)) = finS ps x (.agg #[.int .u64 (a : Nat), .string S]) k ∧ k + ps.length ≤ 40000 ∧ ps.length ≤ gk) from ⟨q2, q3, q4⟩)
    have kM := more_any rp ps x (rp + 1) wr q1.st.rd
    have hk40 : k ≤ 40000 := by omega
    clear hrel q1 q2 q3 q4 HI0
    by_cases hps : x = 0 ∧ ps ≠ []
    · rw [decide_eq_true hps] at kM
      obtain ⟨rfl, hne⟩ := hps
      obtain ⟨p0, tl, rfl⟩ : ∃ p0 tl, ps = p0 :: tl := by
        cases ps with
        | nil => exact absurd rfl hne
        | cons p0 tl => exact ⟨p0, tl, rfl⟩
      clear hne
      go_wp2_with (first
        | (go_at_call 61; refine kM.mono ?_; rintro e v1 ⟨rfl, rfl⟩)
        | (go_at_call 60; refine (record_all rp _ _ _ _ HI.out.st.rd).mono ?_; rintro e w7 ⟨rfl, hx7, hk7⟩; obtain ⟨a7, S7, re7⟩ := recS_form (p0 :: tl) 0; rw [re7]; have HI7 := (show Hid (XLi w1 w7 rp sB l.p (recS (p0 :: tl) 0).2.1 (recS (p0 :: tl) 0).2.2 a S k) from HI.out.step hx7 hk7); have HF7 := (show Hid (lookF WT (l.fs.map (·.2)) = finS (recS (p0 :: tl) 0).2.1 (recS (p0 :: tl) 0).2.2 (.agg #[.int .u64 (a7 : Nat), .string S7]) (k + 1)) from by rw [← re7, ← finS_step]; exact HQ.out.1); obtain ⟨d0, d1, d2, d3, f1, f2, f3⟩ := HI7.out.cells; clear hx7 hk7 re7))
      have HN := (show Hid (1 ≤ gk ∧ (k + 1) + tl.length ≤ 40000 ∧ tl.length ≤ gk - 1) from by have := HQ.out.2; simp only [List.length_cons] at this; exact ⟨by omega, by omega, by omega⟩)
      go_roundg (gk - 1)
      case measure => have := HN.out.1; omega
      case rel => exact ⟨_, _, a7, S7, k + 1, HI7.out.put a7 S7 (k + 1), HF7.out, by rw [recS_left]; exact HN.out.2.1, by rw [recS_left]; exact HN.out.2.2⟩
    · rw [decide_eq_false hps] at kM
      have HF := (show Hid (lookF WT (l.fs.map (·.2)) = (.agg #[.int .u64 (a : Nat), .string S], k, x)) from by rw [HQ.out.1]; exact finS_stop ps x _ k hps)
      clear hps
      obtain ⟨v, ev, hr, hf, he, hrp, hsz⟩ := id HI.out.st.rd
      have e1 := hr.cell (i := 1) rfl
      have HE := (show Hid (ErX wr ev x) from he)
      have hrb := HR1.out.later HI.out.st.be
      have b0 := hrb.cell (i := 0) rfl
      have b1 := hrb.cell (i := 1) rfl
      have b2 := hrb.cell (i := 2) rfl
      have b3 := hrb.cell (i := 3) rfl
      have g0 := hrb.frozen 0
      have g1 := hrb.frozen 1
      have g2 := hrb.frozen 2
      have g3 := hrb.frozen 3
      obtain ⟨d0, d1, d2, d3, _, _, _⟩ := HI.out.cells
      have HFin := (show Hid (∀ (t0 t1 t2 t3 : Value), OpenP base t w m c P 0 l ((((wr.setCell ⟨w.heap.size, 0, none⟩ t0).setCell ⟨w.heap.size, 1, none⟩ t1).setCell ⟨w.heap.size, 2, none⟩ t2).setCell ⟨w.heap.size, 3, none⟩ t3) ∧ ErX ((((wr.setCell ⟨w.heap.size, 0, none⟩ t0).setCell ⟨w.heap.size, 1, none⟩ t1).setCell ⟨w.heap.size, 2, none⟩ t2).setCell ⟨w.heap.size, 3, none⟩ t3) ev x) from look_fin ((HO.out.later HI.out.st.be).from HW.out.1) he hrb HBs.out.1 (Nat.le_refl _) (fun k hk e => by have := HO.out.nu k hk; have := HBs.out.2; omega))
      rcases he.nil with ⟨rfl, rfl⟩ | ⟨hx0, t9, u9, rfl⟩
      · clear hr hf he hrp hsz hrb
        go_wp2_with (first
          | (go_at_call 61; refine kM.mono ?_; rintro e v1 ⟨rfl, rfl⟩))
        (try simp only [Exit.inBlock, Exit.then])
        have hF := HFin.out (.pointer (some ⟨l.p, 0, none⟩)) (.int .u64 (a : Nat)) (.string S) (.int .i64 (k : Nat))
        refine bodyPost_ret (v := .tuple #[.agg #[.pointer (some ⟨l.p, 0, none⟩), .int .u64 (a : Nat), .string S, .int .i64 (k : Nat)], .nilIface]) ?_ rfl ⟨l, hF.1, ?_⟩
        · rw [results_cell_tmp rfl]
          go_simp
        · rw [HF.out]
          exact ⟨fun _ => ⟨a, S, rfl, rfl⟩, fun q => absurd rfl q⟩
      · have HX0 := (show Hid (x ≠ 0) from hx0)
        clear hr hf he hrp hsz hrb hx0
        go_wp2_with (first
          | (go_at_call 61; refine kM.mono ?_; rintro e v1 ⟨rfl, rfl⟩))
        have e5 : ((((wr.setCell ⟨w.heap.size, 0, none⟩ (.pointer none)).setCell ⟨w.heap.size, 1, none⟩ (.int .u64 0)).setCell ⟨w.heap.size, 2, none⟩ (.string ⟨#[]⟩)).setCell ⟨w.heap.size, 3, none⟩ (.int .i64 0)).drew.cell? ⟨rp, 1, none⟩ = some (.iface t9 u9) := by
          refine kept_cell (S := fun k => k = w.heap.size) (w := wr) ?_ e1 (fun q => ?_)
          · exact (Kept.setCell (S := fun k => k = w.heap.size) (Kept.setCell (S := fun k => k = w.heap.size) (Kept.setCell (S := fun k => k = w.heap.size) (Kept.setCell (S := fun k => k = w.heap.size) (Kept.refl _ wr) (p := ⟨w.heap.size, 0, none⟩) rfl _) (p := ⟨w.heap.size, 1, none⟩) rfl _) (p := ⟨w.heap.size, 2, none⟩) rfl _) (p := ⟨w.heap.size, 3, none⟩) rfl _).drew
          · have q1 : rp = w.heap.size := q
            have := HI.out.st.ge
            have := HR1.out.lt
            omega
        go_region
        all_goals
          go_wp2_with fail
          (try simp only [Exit.inBlock, Exit.then])
          have hF := HFin.out (.pointer none) (.int .u64 0) (.string ⟨#[]⟩) (.int .i64 0)
          refine bodyPost_ret (v := .tuple #[.agg #[.pointer none, .int .u64 0, .string ⟨#[]⟩, .int .i64 0], .iface t9 u9]) ?_ rfl ⟨l, hF.1.later (Below.refl _ _).drew, ?_⟩
          · rw [results_cell_tmp rfl]
            go_simp
          · rw [HF.out]
            exact ⟨fun q => absurd q HX0.out, fun _ => ⟨_, _, rfl, hF.2.later (Below.refl _ _).drew⟩⟩
end Go.Proofs.YtkfecngkdlajgaaGreatDoor
namespace Go.Proofs.YtkfecngkdlajgaaGreatDoor
open Go.RowKit Go.Extern.Stop Go.Stop Go.Extern
set_option maxRecDepth 10000

theorem finS_yes : ∀ (ps : List (List Nat)) (p : List Nat) (k : Nat), (∀ x ∈ ps, isRec x = true) → finS ps 0 (recV p) k = (recV ((p :: ps).getLast (by simp)), k + ps.length, 0)
  | [], p, k, _ => rfl
  | q :: tl, p, k, h => by
    show (if (0 : Int) = 0 then (if isRec q then finS tl 0 (recV q) (k + 1) else _) else _) = _
    rw [if_pos rfl, if_pos (h q (by simp)), finS_yes tl q (k + 1) (fun x hx => h x (by simp [hx]))]
    have e1 : (p :: q :: tl).getLast (by simp) = (q :: tl).getLast (by simp) := List.getLast_cons (by simp)
    have e2 : k + 1 + tl.length = k + (q :: tl).length := by rw [List.length_cons]; omega
    rw [e1, e2]
theorem lookF_yes (WT r : List Nat) (rs : List (List Nat)) (h : ∀ x ∈ r :: rs, isRec x = true) : lookF WT (WT :: r :: rs) = (recV ((r :: rs).getLast (by simp)), (r :: rs).length, 0) := by
  unfold lookF
  rw [show supS WT (WT :: r :: rs) = (r :: rs, 0) by simp [supS]]
  rw [recS_cons, if_pos rfl, if_pos (h r (by simp)), finS_yes rs r 1 (fun x hx => h x (by simp [hx])), List.length_cons, Nat.add_comm]
theorem refused_yes {base : Nat} {w : World} {m : Mg} {c : CS} (h : MLies base w m c) (n : Nat) (S : ByteArray) (hS : S.size ≤ 512) (hsp : spentB c = false) :
    Calls Tryz.prog 30 #[.pointer (some ⟨m.p, 0, none⟩), .agg #[.int .u64 (n : Nat), .string S]] w fun e w' => e = .returned (.int .i64 0) ∧ Below w.heap.size w w' := by
  have HB := (show Hid (Below w.heap.size w (w.alloc (.cells #[.int .u64 (n : Nat), .string S] 40))) from below_new _ _)
  have kP := mspent_any (h.later HB.out)
  rw [hsp] at kP
  clear h hsp
  go_enter Tryz.func30, Tryz.ntmps30
  go_wp2_with (go_at_call 46; refine kP.mono ?_; rintro e w2 ⟨rfl, hb2⟩; have HB2 := (show Hid (Below w.heap.size w w2) from Below.after HB.out hb2); clear hb2)
  go_ret
  exact ⟨rfl, HB2.out⟩
end Go.Proofs.YtkfecngkdlajgaaGreatDoor
namespace Go.Proofs.YtkfecngkdlajgaaGreatDoor
open Go.RowKit Go.Extern.Stop Go.Stop Go.Extern
set_option maxRecDepth 10000

/-- A master in memory: its manager, its newest record, how many. -/
def xCells (mp n : Nat) (S : ByteArray) (k : Nat) : List Value := [.pointer (some ⟨mp, 0, none⟩), .int .u64 (n : Nat), .string S, .int .i64 (k : Nat)]
def XAt (w : World) (xp mp n : Nat) (S : ByteArray) (k : Nat) : Prop := Row w xp (xCells mp n S k) 87
theorem saves_any {w : World} {xp mp n : Nat} {S : ByteArray} {k : Nat} (h : XAt w xp mp n S k) :
    Calls Tryz.prog 18 #[.pointer (some ⟨xp, 0, none⟩)] w fun e w' => e = .returned (.int .i64 (k : Nat)) ∧ w = w' := by
  have c3 : w.cell? ⟨xp, 3, none⟩ = some (.int .i64 (k : Nat)) := Row.cell (i := 3) h rfl
  clear h
  go_enter Tryz.func18, Tryz.ntmps18
  go_wp2
  go_ret
  exact ⟨rfl, rfl⟩
end Go.Proofs.YtkfecngkdlajgaaGreatDoor
