/-
  The document's chip in memory.
  What the document's chip tells, and what little it changes: Bad, Next, Erases, Power, Mark, told.
  What is read of the document's chip.
  What Mark does with the document's chip.
  What fault does with the document's chip.
  What the document's power says.
  The chip as the document tells it, without places: what both chips are held against.
  What RightPlan says of a plan.
-/
import Derived.Test.YteoakhfofnocfaaGreatDoorGV
import Derived.Laws.AppendOwnNone
import Derived.Deep.LoopGhost
namespace Go.Proofs.YteoakhfofnocfaaGreatDoor
open Go.RowKit
set_option maxRecDepth 10000

/-- A page of the document's chip. -/
structure DPg where
  done : Bool
  spoilt : Bool
  da : Option Addr
  dl : Nat
  dc : Nat
  data : List Nat
/-- A block of the document's chip. -/
structure DBk where
  r : Nat
  cap : Nat
  pgs : List DPg
  next : Int
  bad : Bool
  erases : Int
/-- The document's chip. -/
structure DS where
  p : Nat
  q : Nat
  qcap : Nat
  gb : Nat
  gp : Nat
  gz : Nat
  gr : Nat
  bks : List DBk
  off : Bool
  pa : Option Addr
  pl : Nat
  pc : Nat
  plan : List Flt
  since : Int
  ops : Int
  wrong : Int
def dpCells (p : DPg) : List Value := [.bool p.done, .bool p.spoilt, .slice p.da p.dl p.dc]
def dbCells (b : DBk) : List Value := [.slice (some ⟨b.r, 0, none⟩) b.pgs.length b.cap, .int .i64 b.next, .bool b.bad, .int .i64 b.erases]
def dsCells (d : DS) : List Value :=
  [.int .i64 d.gb, .int .i64 d.gp, .int .i64 d.gz, .int .i64 d.gr, .slice (some ⟨d.q, 0, none⟩) d.bks.length d.qcap, .bool d.off, .slice d.pa d.pl d.pc, .int .i64 d.since, .int .i64 d.ops, .int .i64 d.wrong]
theorem dp_len (p : DPg) : (dpCells p).length = 3 := rfl
theorem db_len (b : DBk) : (dbCells b).length = 4 := rfl
def DS.foot (d : DS) (k : Nat) : Prop := k = d.p ∨ k = d.q ∨ k ∈ d.bks.map DBk.r
/-- The page's bytes can be read, and lie apart from what is written. -/
structure DOk (w : World) (p : DPg) : Prop where
  len : p.dl = p.data.length
  lt : ∀ x ∈ p.data, x < 256
  row : BRow w p.da p.data
  nil : p.da = none → p.dl = 0 ∧ p.dc = 0
  apart : p.data = [] ∨ ∀ b o, p.da = some ⟨b, o, none⟩ → ∃ cs, Row w b cs 5
/-- What holds of the document's chip, wherever it lies. -/
structure DGood (d : DS) : Prop where
  len : d.bks.length = d.gb
  plen : ∀ b ∈ d.bks, b.pgs.length = d.gp ∧ d.gp ≤ b.cap ∧ b.cap ≤ maxLen ∧ 0 ≤ b.next ∧ b.next ≤ d.gp
  qc : d.gb ≤ d.qcap ∧ d.qcap ≤ maxLen
  gs : 1 ≤ d.gb ∧ d.gb ≤ 256 ∧ 1 ≤ d.gp ∧ d.gp ≤ 64 ∧ 1 ≤ d.gz ∧ d.gz ≤ 512
  dat : ∀ b ∈ d.bks, ∀ p ∈ b.pgs, p.data.length ≤ d.gz
  pln : d.pl = d.plan.length ∧ d.pl ≤ 256 ∧ planOk d.plan
/-- The document's chip lies in memory, all of it from base on. -/
structure DLies (base : Nat) (w : World) (d : DS) : Prop where
  chip : Row w d.p (dsCells d) 84
  bks : Row w d.q (d.bks.flatMap dbCells) 87
  pgs : ∀ b ∈ d.bks, Row w b.r (b.pgs.flatMap dpCells) 132 ∧ ∀ p ∈ b.pgs, DOk w p
  nd : (d.bks.map DBk.r).Nodup
  low : ∀ k, d.foot k → base ≤ k
  plan : FRow w d.pa d.plan ∧ ∀ b o, d.pa = some ⟨b, o, none⟩ → d.plan ≠ [] → ¬ d.foot b ∧ b < w.heap.size
  good : DGood d
theorem DOk.kept {S : Nat → Prop} {w w' : World} {p : DPg} (h : DOk w p) (hk : Kept S w w') (hs : ∀ b cs, Row w b cs 5 → ¬ S b) : DOk w' p := by
  refine ⟨h.len, h.lt, ?_, h.nil, ?_⟩
  · rcases h.row with e | ⟨b, off, e, hc⟩
    · exact .inl e
    · rcases h.apart with q | q
      · exact .inl q
      · obtain ⟨cs, hr⟩ := q b off e
        refine .inr ⟨b, off, e, fun i hi => ?_⟩
        rw [World.cell?_of_block (w := w) (hk.block b hr.lt (hs b cs hr))]
        exact hc i hi
  · rcases h.apart with q | q
    · exact .inl q
    · refine .inr fun b o e => ?_
      obtain ⟨cs, hr⟩ := q b o e
      exact ⟨cs, hr.kept hk (hs b cs hr)⟩
theorem frow_kept {S : Nat → Prop} {w w' : World} {a : Option Addr} {l : List Flt} (h : FRow w a l) (hk : Kept S w w') (hs : ∀ b o, a = some ⟨b, o, none⟩ → l ≠ [] → ¬ S b) : FRow w' a l := by
  rcases h with e | ⟨b, off, e, hc⟩
  · exact .inl e
  · by_cases hl : l = []
    · exact .inl hl
    · refine .inr ⟨b, off, e, fun i f hf => ?_⟩
      obtain ⟨q0, q1, q2⟩ := hc i f hf
      have key : ∀ j, w'.cell? ⟨b, j, none⟩ = w.cell? ⟨b, j, none⟩ := fun j => World.cell?_of_block (w := w) (hk.block b (World.block_lt_of_cell? w _ q0) (hs b off e hl))
      rw [key, key, key]
      exact ⟨q0, q1, q2⟩
theorem DLies.kept {S : Nat → Prop} {base : Nat} {w w' : World} {d : DS} (h : DLies base w d) (hk : Kept S w w') (hs : ∀ k, d.foot k → ¬ S k) (hu : ∀ b cs, Row w b cs 5 → ¬ S b) (hp : ∀ b o, d.pa = some ⟨b, o, none⟩ → d.plan ≠ [] → ¬ S b) : DLies base w' d :=
  ⟨h.chip.kept hk (hs _ (.inl rfl)), h.bks.kept hk (hs _ (.inr (.inl rfl))), fun b hb => ⟨(h.pgs b hb).1.kept hk (hs _ (.inr (.inr (List.mem_map.2 ⟨b, hb, rfl⟩)))), fun p hp => ((h.pgs b hb).2 p hp).kept hk hu⟩, h.nd, h.low,
    ⟨frow_kept h.plan.1 hk hp, fun b o e hl => ⟨(h.plan.2 b o e hl).1, Nat.lt_of_lt_of_le (h.plan.2 b o e hl).2 hk.size⟩⟩, h.good⟩
theorem DLies.later {base : Nat} {w w' : World} {d : DS} (h : DLies base w d) (hb : Below w.heap.size w w') : DLies base w' d :=
  h.kept (S := fun _ => False) (.of_below hb) (fun _ _ x => x) (fun _ _ _ x => x) (fun _ _ _ _ x => x)
theorem DLies.foot_lt {base : Nat} {w : World} {d : DS} (h : DLies base w d) {k : Nat} (hk : d.foot k) : k < w.heap.size := by
  rcases hk with rfl | rfl | hk
  · exact h.chip.lt
  · exact h.bks.lt
  · obtain ⟨b, hb, rfl⟩ := List.mem_map.1 hk; exact (h.pgs b hb).1.lt
/-- A block's own cells. -/
structure DAt (w : World) (q o : Nat) (b : DBk) : Prop where
  list : w.cell? ⟨q, o, none⟩ = some (.slice (some ⟨b.r, 0, none⟩) b.pgs.length b.cap)
  next : w.cell? ⟨q, o + 1, none⟩ = some (.int .i64 b.next)
  bad : w.cell? ⟨q, o + 2, none⟩ = some (.bool b.bad)
  erases : w.cell? ⟨q, o + 3, none⟩ = some (.int .i64 b.erases)
theorem DAt.of {W : World} {q i : Nat} {l : List DBk} {b : DBk} {t : TypeId} (h : Row W q (l.flatMap dbCells) t) (hi : l[i]? = some b) : DAt W q (i * 4) b :=
  ⟨h.cell (flat_get dbCells 4 db_len 0 (by decide) l i b hi), h.cell (flat_get dbCells 4 db_len 1 (by decide) l i b hi), h.cell (flat_get dbCells 4 db_len 2 (by decide) l i b hi), h.cell (flat_get dbCells 4 db_len 3 (by decide) l i b hi)⟩
def DS.at (d : DS) (block : Int) : Option DBk := if block < 0 then none else d.bks[block.toNat]?
theorem dat_some {d : DS} {n : Int} {b : DBk} (hb : d.at n = some b) : d.bks[n.toNat]? = some b ∧ 0 ≤ n := by
  unfold DS.at at hb
  split at hb
  · cases hb
  · exact ⟨hb, by omega⟩
theorem dat_none {d : DS} {n : Int} (h : d.at n = none) : n < 0 ∨ (¬ n < 0 ∧ d.bks[n.toNat]? = none) := by
  unfold DS.at at h
  split at h
  · left; assumption
  · right; exact ⟨by assumption, h⟩
def DS.asked (d : DS) (block : Int) : Int := if d.off = true then 6 else match d.at block with | none => 22 | some _ => 0

theorem d_asked {base : Nat} {w : World} {d : DS} (h : DLies base w d) (n : Int) :
    Calls Tryz.prog 82 #[.pointer (some ⟨d.p, 0, none⟩), .int .i64 n] w fun e w' => e = .returned (.int .i64 (d.asked n)) ∧ w = w' := by
  have c4 : w.cell? ⟨d.p, 4, none⟩ = some (.slice (some ⟨d.q, 0, none⟩) d.bks.length d.qcap) := h.chip.cell (by rfl)
  have c5 : w.cell? ⟨d.p, 5, none⟩ = some (.bool d.off) := h.chip.cell (by rfl)
  unfold DS.asked
  cases ho : d.off with
  | true =>
    rw [ho] at c5
    rw [if_pos rfl]
    clear ho h
    go_enter Tryz.func82, Tryz.ntmps82
    go_wp2
    go_ret
    exact ⟨rfl, rfl⟩
  | false =>
    rw [ho] at c5
    rw [if_neg (by decide)]
    by_cases h0 : n < 0
    · have e : d.at n = none := by unfold DS.at; rw [if_pos h0]
      rw [e]
      clear ho h e
      go_enter Tryz.func82, Tryz.ntmps82
      go_wp2
      go_ret
      exact ⟨rfl, rfl⟩
    · by_cases h1 : n < (d.bks.length : Int)
      · obtain ⟨b, hb⟩ : ∃ b, d.at n = some b := by
          unfold DS.at; rw [if_neg h0]; exact ⟨_, List.getElem?_eq_getElem (by omega)⟩
        rw [hb]
        have h2 : ¬ (d.bks.length : Int) ≤ n := by omega
        clear ho h hb h1
        go_enter Tryz.func82, Tryz.ntmps82
        go_wp2
        go_ret
        exact ⟨rfl, rfl⟩
      · have e : d.at n = none := by unfold DS.at; rw [if_neg h0]; exact List.getElem?_eq_none (by omega)
        rw [e]
        have h2 : (d.bks.length : Int) ≤ n := by omega
        clear ho h e h1
        go_enter Tryz.func82, Tryz.ntmps82
        go_wp2
        go_ret
        exact ⟨rfl, rfl⟩
theorem d_on {base : Nat} {w : World} {d : DS} (h : DLies base w d) :
    Calls Tryz.prog 51 #[.pointer (some ⟨d.p, 0, none⟩)] w fun e w' => e = .returned (.bool (!d.off)) ∧ w = w' := by
  have c5 : w.cell? ⟨d.p, 5, none⟩ = some (.bool d.off) := h.chip.cell (by rfl)
  go_enter Tryz.func51, Tryz.ntmps51
  go_wp2
  go_ret
  exact ⟨rfl, rfl⟩
theorem d_ops {base : Nat} {w : World} {d : DS} (h : DLies base w d) :
    Calls Tryz.prog 61 #[.pointer (some ⟨d.p, 0, none⟩)] w fun e w' => e = .returned (.int .i64 d.ops) ∧ w = w' := by
  have c5 : w.cell? ⟨d.p, 8, none⟩ = some (.int .i64 d.ops) := h.chip.cell (by rfl)
  go_enter Tryz.func61, Tryz.ntmps61
  go_wp2
  go_ret
  exact ⟨rfl, rfl⟩
theorem d_wrong {base : Nat} {w : World} {d : DS} (h : DLies base w d) :
    Calls Tryz.prog 63 #[.pointer (some ⟨d.p, 0, none⟩)] w fun e w' => e = .returned (.int .i64 d.wrong) ∧ w = w' := by
  have c5 : w.cell? ⟨d.p, 9, none⟩ = some (.int .i64 d.wrong) := h.chip.cell (by rfl)
  go_enter Tryz.func63, Tryz.ntmps63
  go_wp2
  go_ret
  exact ⟨rfl, rfl⟩
theorem d_geometry {base : Nat} {w : World} {d : DS} (h : DLies base w d) :
    Calls Tryz.prog 52 #[.pointer (some ⟨d.p, 0, none⟩)] w fun e w' => e = .returned (.agg #[.int .i64 d.gb, .int .i64 d.gp, .int .i64 d.gz, .int .i64 d.gr]) ∧ Below w.heap.size w w' := by
  have c0 : w.cell? ⟨d.p, 0, none⟩ = some (.int .i64 d.gb) := h.chip.cell (by rfl)
  have c1 : w.cell? ⟨d.p, 1, none⟩ = some (.int .i64 d.gp) := h.chip.cell (by rfl)
  have c2 : w.cell? ⟨d.p, 2, none⟩ = some (.int .i64 d.gz) := h.chip.cell (by rfl)
  have c3 : w.cell? ⟨d.p, 3, none⟩ = some (.int .i64 d.gr) := h.chip.cell (by rfl)
  have hp := h.chip.lt
  clear h
  go_enter Tryz.func52, Tryz.ntmps52
  go_wp2
  refine bodyPost_ret (v := .agg #[.int .i64 d.gb, .int .i64 d.gp, .int .i64 d.gz, .int .i64 d.gr]) ?_ rfl ⟨rfl, ?_⟩
  · simp [results, Tryz.f52, go_sem]
  · exact below_new w _
end Go.Proofs.YteoakhfofnocfaaGreatDoor
namespace Go.Proofs.YteoakhfofnocfaaGreatDoor
open Go.RowKit
set_option maxRecDepth 10000

theorem d_len {base : Nat} {w : World} {d : DS} (h : DLies base w d) : w.cell? ⟨d.p, 4, none⟩ = some (.slice (some ⟨d.q, 0, none⟩) d.bks.length d.qcap) := h.chip.cell (by rfl)
theorem d_bad {base : Nat} {w : World} {d : DS} (h : DLies base w d) (n : Int) :
    Calls Tryz.prog 57 #[.pointer (some ⟨d.p, 0, none⟩), .int .i64 n] w fun e w' => e = .returned (.bool (match d.at n with | none => false | some b => b.bad)) ∧ w = w' := by
  have c4 := d_len h
  cases hb : d.at n with
  | none =>
    rcases dat_none hb with h0 | ⟨h0, h1⟩
    · clear hb h
      go_enter Tryz.func57, Tryz.ntmps57
      go_wp2
      go_ret
      exact ⟨rfl, rfl⟩
    · have h2 : ¬ n < (d.bks.length : Int) := by have := List.getElem?_eq_none_iff.1 h1; omega
      clear hb h h1
      go_enter Tryz.func57, Tryz.ntmps57
      go_wp2
      go_ret
      exact ⟨rfl, rfl⟩
  | some b =>
    obtain ⟨h1, h0⟩ := dat_some hb
    have hl := (List.getElem?_eq_some_iff.1 h1).1
    have h3 := (DAt.of h.bks h1).bad
    obtain ⟨i, rfl⟩ : ∃ i : Nat, n = i := ⟨n.toNat, by omega⟩
    have hl2 : (i : Int) < (d.bks.length : Int) := by simp at hl; omega
    simp only [Int.toNat_natCast] at h3
    clear hb h h1 hl
    go_enter Tryz.func57, Tryz.ntmps57
    go_wp2
    go_ret
    exact ⟨rfl, rfl⟩
theorem d_next {base : Nat} {w : World} {d : DS} (h : DLies base w d) (n : Int) :
    Calls Tryz.prog 58 #[.pointer (some ⟨d.p, 0, none⟩), .int .i64 n] w fun e w' => e = .returned (.int .i64 (match d.at n with | none => 0 | some b => b.next)) ∧ w = w' := by
  have c4 := d_len h
  cases hb : d.at n with
  | none =>
    rcases dat_none hb with h0 | ⟨h0, h1⟩
    · clear hb h
      go_enter Tryz.func58, Tryz.ntmps58
      go_wp2
      go_ret
      exact ⟨rfl, rfl⟩
    · have h2 : (d.bks.length : Int) ≤ n := by have := List.getElem?_eq_none_iff.1 h1; omega
      clear hb h h1
      go_enter Tryz.func58, Tryz.ntmps58
      go_wp2
      go_ret
      exact ⟨rfl, rfl⟩
  | some b =>
    obtain ⟨h1, h0⟩ := dat_some hb
    have hl := (List.getElem?_eq_some_iff.1 h1).1
    have h3 := (DAt.of h.bks h1).next
    obtain ⟨i, rfl⟩ : ∃ i : Nat, n = i := ⟨n.toNat, by omega⟩
    have hl2 : ¬ (d.bks.length : Int) ≤ (i : Int) := by simp at hl; omega
    have hl3 : (i : Int) < (d.bks.length : Int) := by omega
    simp only [Int.toNat_natCast] at h3
    clear hb h h1 hl
    go_enter Tryz.func58, Tryz.ntmps58
    go_wp2
    go_ret
    exact ⟨rfl, rfl⟩
theorem d_erases {base : Nat} {w : World} {d : DS} (h : DLies base w d) (n : Int) :
    Calls Tryz.prog 60 #[.pointer (some ⟨d.p, 0, none⟩), .int .i64 n] w fun e w' => e = .returned (.int .i64 (match d.at n with | none => 0 | some b => b.erases)) ∧ w = w' := by
  have c4 := d_len h
  cases hb : d.at n with
  | none =>
    rcases dat_none hb with h0 | ⟨h0, h1⟩
    · clear hb h
      go_enter Tryz.func60, Tryz.ntmps60
      go_wp2
      go_ret
      exact ⟨rfl, rfl⟩
    · have h2 : (d.bks.length : Int) ≤ n := by have := List.getElem?_eq_none_iff.1 h1; omega
      clear hb h h1
      go_enter Tryz.func60, Tryz.ntmps60
      go_wp2
      go_ret
      exact ⟨rfl, rfl⟩
  | some b =>
    obtain ⟨h1, h0⟩ := dat_some hb
    have hl := (List.getElem?_eq_some_iff.1 h1).1
    have h3 := (DAt.of h.bks h1).erases
    obtain ⟨i, rfl⟩ : ∃ i : Nat, n = i := ⟨n.toNat, by omega⟩
    have hl2 : ¬ (d.bks.length : Int) ≤ (i : Int) := by simp at hl; omega
    have hl3 : (i : Int) < (d.bks.length : Int) := by omega
    simp only [Int.toNat_natCast] at h3
    clear hb h h1 hl
    go_enter Tryz.func60, Tryz.ntmps60
    go_wp2
    go_ret
    exact ⟨rfl, rfl⟩

theorem u8_apart {base : Nat} {w : World} {d : DS} (h : DLies base w d) : ∀ b cs, Row w b cs 5 → ¬ d.foot b := by
  rintro b cs hr (rfl | rfl | hk)
  · exact hr.ne h.chip (by decide) rfl
  · exact hr.ne h.bks (by decide) rfl
  · obtain ⟨k, hb, rfl⟩ := List.mem_map.1 hk; exact hr.ne (h.pgs k hb).1 (by decide) rfl
theorem dfoot_set {d d' : DS} {i : Nat} {b b' : DBk} (hp : d'.p = d.p) (hq : d'.q = d.q) (hi : d.bks[i]? = some b) (hb : d'.bks = d.bks.set i b') (hr : b'.r = b.r) : d'.bks.map DBk.r = d.bks.map DBk.r ∧ d'.foot = d.foot := by
  have e : d'.bks.map DBk.r = d.bks.map DBk.r := by
    rw [hb, List.map_set, hr]
    exact set_self (by simp [hi])
  refine ⟨e, ?_⟩
  funext k
  unfold DS.foot
  rw [hp, hq, e]
/-- One block has changed, its pages lying where they lay. -/
theorem DLies.step {base : Nat} {w w' : World} {d d' : DS} {i : Nat} {b b' : DBk} (h : DLies base w d) (hp : d'.p = d.p) (hq : d'.q = d.q) (hpa : d'.pa = d.pa ∧ d'.plan = d.plan) (hi : d.bks[i]? = some b) (hb : d'.bks = d.bks.set i b') (hr : b'.r = b.r) (good : DGood d')
    (hk : Kept (fun k => k = d.p ∨ k = d.q ∨ k = b.r) w w') (h1 : Row w' d.p (dsCells d') 84)
    (h2 : Row w' d.q (d'.bks.flatMap dbCells) 87) (h3 : Row w' b.r (b'.pgs.flatMap dpCells) 132) (h4 : ∀ p ∈ b'.pgs, DOk w' p) : DLies base w' d' ∧ Kept d.foot w w' ∧ d'.foot = d.foot := by
  obtain ⟨e1, e2⟩ := dfoot_set hp hq hi hb hr
  have hbm : b ∈ d.bks := List.mem_of_getElem? hi
  have hmono : Kept d.foot w w' := hk.mono (by
    rintro k (rfl | rfl | rfl)
    · exact .inl rfl
    · exact .inr (.inl rfl)
    · exact .inr (.inr (List.mem_map.2 ⟨b, hbm, rfl⟩)))
  refine ⟨⟨by rw [hp]; exact h1, by rw [hq]; exact h2, ?_, by rw [e1]; exact h.nd, by rw [e2]; exact h.low, ?_, good⟩, hmono, e2⟩
  · intro x hx
    rw [hb] at hx
    obtain ⟨j, hj, rfl⟩ := List.getElem_of_mem hx
    rw [List.getElem_set] at *
    split
    · rw [hr]; exact ⟨h3, h4⟩
    · rename_i hne
      have hj2 : j < d.bks.length := by simpa using hj
      have hm : d.bks[j] ∈ d.bks := List.getElem_mem hj2
      refine ⟨(h.pgs _ hm).1.kept hk ?_, fun p hp => ((h.pgs _ hm).2 p hp).kept hmono (u8_apart h)⟩
      rintro (e | e | e)
      · exact (h.pgs _ hm).1.ne h.chip (by decide) e
      · exact (h.pgs _ hm).1.ne h.bks (by decide) e
      · obtain ⟨hi1, hi2⟩ := List.getElem?_eq_some_iff.1 hi
        have hnd := List.pairwise_iff_getElem.1 h.nd
        rcases Nat.lt_or_gt_of_ne hne with hlt | hlt
        · exact hnd i j (by simpa using hi1) (by simpa using hj2) hlt (by simp [e, hi2])
        · exact hnd j i (by simpa using hj2) (by simpa using hi1) hlt (by simp [e, hi2])
  · rw [hpa.1, hpa.2, e2]
    exact ⟨frow_kept h.plan.1 hmono (fun b o e hl => (h.plan.2 b o e hl).1), fun b o e hl => ⟨(h.plan.2 b o e hl).1, Nat.lt_of_lt_of_le (h.plan.2 b o e hl).2 hmono.size⟩⟩
theorem DLies.step0 {base : Nat} {w w' : World} {d d' : DS} (h : DLies base w d) (hp : d'.p = d.p) (hq : d'.q = d.q) (hpa : d'.pa = d.pa ∧ d'.plan = d.plan) (hb : d'.bks = d.bks) (good : DGood d')
    (hk : Kept (fun k => k = d.p) w w') (h1 : Row w' d.p (dsCells d') 84) : DLies base w' d' ∧ Kept d.foot w w' ∧ d'.foot = d.foot := by
  have e2 : d'.foot = d.foot := by funext k; unfold DS.foot; rw [hp, hq, hb]
  have hmono : Kept d.foot w w' := hk.mono (fun k e => .inl e)
  refine ⟨⟨by rw [hp]; exact h1, ?_, ?_, by rw [hb]; exact h.nd, by rw [e2]; exact h.low, ?_, good⟩, hmono, e2⟩
  · rw [hq, hb]; exact h.bks.kept hk (fun e => h.bks.ne h.chip (by decide) e)
  · rw [hb]; intro x hx; exact ⟨(h.pgs x hx).1.kept hk (fun e => (h.pgs x hx).1.ne h.chip (by decide) e), fun p hp => ((h.pgs x hx).2 p hp).kept hmono (u8_apart h)⟩
  · rw [hpa.1, hpa.2, e2]
    exact ⟨frow_kept h.plan.1 hmono (fun b o e hl => (h.plan.2 b o e hl).1), fun b o e hl => ⟨(h.plan.2 b o e hl).1, Nat.lt_of_lt_of_le (h.plan.2 b o e hl).2 hmono.size⟩⟩
theorem d_power {base : Nat} {w : World} {d : DS} (h : DLies base w d) :
    Calls Tryz.prog 42 #[.pointer (some ⟨d.p, 0, none⟩)] w fun e w' => e = .returned (.tuple #[]) ∧ DLies base w' { d with off := false } ∧ Kept d.foot w w' := by
  have c5 : w.cell? ⟨d.p, 5, none⟩ = some (.bool d.off) := h.chip.cell (by rfl)
  have f5 := h.chip.frozen 5
  have fin : ∀ W, W = w.setCell ⟨d.p, 5, none⟩ (.bool false) → DLies base W { d with off := false } ∧ Kept d.foot w W := by
    rintro W rfl
    have hk : Kept (fun k => k = d.p) w (w.setCell ⟨d.p, 5, none⟩ (.bool false)) := (Kept.refl (fun k => k = d.p) w).setCell (p := ⟨d.p, 5, none⟩) rfl _
    obtain ⟨r1, r2, _⟩ := h.step0 (d' := { d with off := false }) rfl rfl ⟨rfl, rfl⟩ rfl ⟨h.good.len, h.good.plen, h.good.qc, h.good.gs, h.good.dat, h.good.pln⟩ hk (h.chip.set (i := 5) (.bool false) (by simp [dsCells]))
    exact ⟨r1, r2⟩
  go_enter Tryz.func42, Tryz.ntmps42
  go_wp2
  go_end0
  exact ⟨rfl, fin _ rfl⟩
/-- What told answers, and the chip behind it. -/
def DS.tell (d : DS) (f : Flt) : Int × DS := if f.kind = 1 then (6, { d with off := true }) else if f.kind = 2 then (5, d) else (0, d)
theorem d_told {base : Nat} {w : World} {d : DS} (h : DLies base w d) (f : Flt) :
    Calls Tryz.prog 84 #[.pointer (some ⟨d.p, 0, none⟩), .agg #[.int .i64 f.num, .int .i64 f.kind, .int .i64 f.torn]] w fun e w' => e = .returned (.int .i64 (d.tell f).1) ∧ DLies base w' (d.tell f).2 ∧ Kept d.foot w w' := by
  have c5 : w.cell? ⟨d.p, 5, none⟩ = some (.bool d.off) := h.chip.cell (by rfl)
  have f5 := h.chip.frozen 5
  have hp := h.chip.lt
  unfold DS.tell
  by_cases h1 : f.kind = 1
  · rw [if_pos h1]
    have fin : ∀ W, W = (w.setCell ⟨d.p, 5, none⟩ (.bool true)).alloc (.cells #[.int .i64 f.num, .int .i64 f.kind, .int .i64 f.torn] 121) → DLies base W { d with off := true } ∧ Kept d.foot w W := by
      rintro W rfl
      have hk : Kept (fun k => k = d.p) w ((w.setCell ⟨d.p, 5, none⟩ (.bool true)).alloc (.cells #[.int .i64 f.num, .int .i64 f.kind, .int .i64 f.torn] 121)) := ((Kept.refl (fun k => k = d.p) w).setCell (p := ⟨d.p, 5, none⟩) rfl _).alloc _
      obtain ⟨r1, r2, _⟩ := h.step0 (d' := { d with off := true }) rfl rfl ⟨rfl, rfl⟩ rfl ⟨h.good.len, h.good.plen, h.good.qc, h.good.gs, h.good.dat, h.good.pln⟩ hk ((h.chip.set (i := 5) (.bool true) (by simp [dsCells])).alloc _)
      exact ⟨r1, r2⟩
    have e1 : (f.kind == 1) = true := by simpa using h1
    clear h1
    go_enter Tryz.func84, Tryz.ntmps84
    go_wp2
    go_ret
    exact ⟨rfl, fin _ rfl⟩
  · rw [if_neg h1]
    have e1 : (f.kind == 1) = false := by simpa using h1
    have fin : ∀ W, W = w.alloc (.cells #[.int .i64 f.num, .int .i64 f.kind, .int .i64 f.torn] 121) → DLies base W d ∧ Kept d.foot w W := by
      rintro W rfl; exact ⟨h.later (below_new w _), .of_below (below_new w _)⟩
    by_cases h2 : f.kind = 2
    · rw [if_pos h2]
      have e2 : (f.kind == 2) = true := by simpa using h2
      clear h1 h2
      go_enter Tryz.func84, Tryz.ntmps84
      go_wp2
      go_ret
      exact ⟨rfl, fin _ rfl⟩
    · rw [if_neg h2]
      have e2 : (f.kind == 2) = false := by simpa using h2
      clear h1 h2
      go_enter Tryz.func84, Tryz.ntmps84
      go_wp2
      go_ret
      exact ⟨rfl, fin _ rfl⟩
end Go.Proofs.YteoakhfofnocfaaGreatDoor
namespace Go.Proofs.YteoakhfofnocfaaGreatDoor
open Go.RowKit
set_option maxRecDepth 10000

theorem cells_any {w : World} {ad : Addr} {l : List Nat} (h : BRow w (some ad) l) : ∀ j u, (l.map u8v)[j]? = some u → w.cell? (ad.add j) = some u := by
  rcases h with rfl | ⟨b, off, ha, hc⟩
  · intro j u hj; simp at hj
  · cases ha
    exact BRow.cells hc
theorem wpList_append_bytes {w : World} {ops : Array Oper} {rest : List Oper} {o : Oper} {a : Act} {Q : Exit → Act → World → Prop} (hgd : o.guard = none) (s x : Operand)
    (ho : o.op = .call { callee := .builtin .append, args := #[s, x], argTypes := #[35, 35] })
    (base : Nat) (v : Value) (n : Nat) (xs : List Value) (hs : a.eval s = v) (hown : w.ownsRow base 5 1 v n xs)
    (ao : Option Addr) (m c : Nat) (M : List Nat) (hx : a.eval x = .slice ao m c) (hM : m = M.length) (hr : BRow w ao M) (hnil : ao = none → m = 0 ∧ c = 0)
    (h63 : n + m ≤ maxLen) (hbytes : (n + m) * 1 ≤ 140737488355328) (hbase : base ≤ w.heap.size)
    (h : ∀ v' w', w'.ownsRow base 5 1 v' (n + m) (xs ++ M.map u8v) → w.grownBy w' v.ownBlock → wpList Tryz.prog ops Q rest (a.put o.dst v') w') : wpList Tryz.prog ops Q (o :: rest) a w := by
  obtain ⟨i0, hi, hz0, hz1, hz2⟩ := info_parts info8
  cases ao with
  | none =>
    obtain ⟨rfl, rfl⟩ := hnil rfl
    have hM0 : M = [] := List.eq_nil_of_length_eq_zero hM.symm
    subst hM0
    refine wpList_append_own_none hgd s x 35 ho base 5 i0 1 Tryz.underlying35 hi v n xs hs hown hx ?_
    exact h v w (by simpa using hown) ⟨rfl, rfl, rfl, Nat.le_refl _, fun _ _ _ => rfl⟩
  | some ad =>
    exact wpList_append_own w hgd s x 35 ho base 5 i0 (.int .u8 0) 1 1 Tryz.underlying35 hi hz0 hz1 hz2 rfl (by omega) v n xs hs hown ad m c (M.map u8v) hx (by simp [hM]) (cells_any hr) (u8v_one _) h63 hbytes hbase
      (fun v' w' h1 h2 _ => h v' w' h1 h2)
theorem own_shape {w : World} {base n : Nat} {v : Value} {l : List Nat} (hn : n = l.length) (h : w.ownsRow base 5 1 v l.length (l.map u8v)) :
    ∃ a cap, v = .slice a n cap ∧ BRow w a l ∧ (a = none → n = 0 ∧ cap = 0) ∧ n ≤ cap ∧ cap ≤ maxLen := by
  subst hn
  rcases h.2 with ⟨rfl, hn⟩ | ⟨g, cap, cur, rfl, hbg, hgg, hnc, hcm, hcs, htake⟩
  · have : l = [] := List.eq_nil_of_length_eq_zero hn
    subst this
    exact ⟨none, 0, rfl, .inl rfl, fun _ => ⟨rfl, rfl⟩, Nat.le_refl _, by decide⟩
  · obtain ⟨a, c, hv, hr, _⟩ := owns_row h
    simp only [Value.slice.injEq] at hv
    obtain ⟨rfl, _, rfl⟩ := hv
    exact ⟨_, cap, rfl, hr, (fun h => by cases h), hnc, hcm⟩
theorem own_shape' {w : World} {base n : Nat} {v : Value} {l : List Nat} (hn : n = l.length) (h : w.ownsRow base 5 1 v n (l.map u8v)) :
    ∃ a cap, v = .slice a n cap ∧ BRow w a l ∧ (a = none → n = 0 ∧ cap = 0) ∧ n ≤ cap ∧ cap ≤ maxLen := own_shape hn (by rw [← hn]; exact h)
theorem grown_own {B : Nat} {w w1 w2 : World} {v : Value} {e n : Nat} {xs : List Value} (h : Below B w w1) (hg : w1.grownBy w2 v.ownBlock) (hB : B ≤ w1.heap.size) (ho : w1.ownsRow B e 1 v n xs) : Below B w w2 :=
  h.grown hg hB (fun k hk => (ho.lt k hk).1)
theorem own_empty (w : World) (base : Nat) (h : base ≤ w.heap.size) : (w.alloc (.cells #[] 5)).ownsRow base 5 1 (.slice (some ⟨w.heap.size, 0, none⟩) 0 0) 0 [] :=
  World.ownsRow_lit (e := 5) (size := 1) w #[] 0 h (by decide) rfl
theorem below_copy {w w' : World} (hg : (w.alloc (.cells #[] 5)).grownBy w' (Value.ownBlock (.slice (some ⟨w.heap.size, 0, none⟩) 0 0))) : Below w.heap.size w w' :=
  (below_new w _).grown hg (by simp) (fun k hk => by simp [Value.ownBlock] at hk; omega)
theorem owns_drewN {w : World} {base e n : Nat} {v : Value} {xs : List Value} (h : w.ownsRow base e 1 v n xs) (m : Nat) : (w.drewN m).ownsRow base e 1 v n xs := by
  have hb := below_drawn w m
  exact owns_later h hb

theorem one_new (w : World) (x : Value) (t : TypeId) : ∀ j u, [x][j]? = some u → (w.alloc (.cells #[x] t)).cell? ((⟨w.heap.size, 0, none⟩ : Addr).add j) = some u := by
  intro j u hj
  have e : (⟨w.heap.size, 0, none⟩ : Addr).add j = ⟨w.heap.size, j, none⟩ := by unfold Addr.add; split <;> simp_all
  rw [e]
  exact (Row.new w [x] t).cell hj
theorem own_form' {W : World} {base size n : Nat} {e : TypeId} {v : Value} {xs : List Value} (h : W.ownsRow base e size v n xs) : ∃ a cap, v = .slice a n cap := by
  rcases h.2 with ⟨rfl, hn⟩ | ⟨g, cap, cur, rfl, _⟩
  · exact ⟨none, 0, by rw [hn]⟩
  · exact ⟨_, cap, rfl⟩
/-- What is read of a page of the document's chip. -/
def DPg.bytes (p : DPg) (n : Nat) : List Nat := if p.spoilt = true then [] else p.data ++ List.replicate (n - p.data.length) 255
def DPg.err (p : DPg) : Int := if p.spoilt = true then 5 else 0
def DS.read (d : DS) (block page : Int) : List Nat × Int :=
  if d.off = true then ([], 6) else match d.at block with
  | none => ([], 22)
  | some b => if page < 0 then ([], 22) else match b.pgs[page.toNat]? with
    | none => ([], 22)
    | some p => (p.bytes d.gz, p.err)
theorem dp_cells {W : World} {r i : Nat} {l : List DPg} {t : TypeId} (h : Row W r (l.flatMap dpCells) t) (hi : i < l.length) :
    W.cell? ⟨r, i * 3, none⟩ = some (.bool l[i].done) ∧ W.cell? ⟨r, i * 3 + 1, none⟩ = some (.bool l[i].spoilt) ∧ W.cell? ⟨r, i * 3 + 2, none⟩ = some (.slice l[i].da l[i].dl l[i].dc) := by
  have e1 := flat_get dpCells 3 dp_len 0 (by decide) l i l[i] (List.getElem?_eq_getElem hi)
  have e2 := flat_get dpCells 3 dp_len 1 (by decide) l i l[i] (List.getElem?_eq_getElem hi)
  have e3 := flat_get dpCells 3 dp_len 2 (by decide) l i l[i] (List.getElem?_eq_getElem hi)
  exact ⟨h.cell e1, h.cell e2, h.cell e3⟩
/-- What Read tells: an answer, without the memory that it lies in. -/
def DGot (w w' : World) (l : List Nat) (a : Option Addr) (m : Nat) : Prop := m = l.length ∧ BRow w' a l ∧ Below w.heap.size w w'

theorem dread_off {d : DS} (block page : Int) (h : d.off = true) : d.read block page = ([], 6) := by unfold DS.read; rw [if_pos h]
theorem dread_none {d : DS} (block page : Int) (h : ¬ d.off = true) (hb : d.at block = none) : d.read block page = ([], 22) := by unfold DS.read; rw [if_neg h, hb]
theorem dread_at {d : DS} (block page : Int) {b : DBk} (h : ¬ d.off = true) (hb : d.at block = some b) : d.read block page = if page < 0 then ([], 22) else match b.pgs[page.toNat]? with | none => ([], 22) | some p => (p.bytes d.gz, p.err) := by
  unfold DS.read; rw [if_neg h, hb]
set_option maxRecDepth 20000 in
set_option maxHeartbeats 4000000 in
theorem d_read {base : Nat} {w : World} {d : DS} (h : DLies base w d) (block page : Int) :
    Calls Tryz.prog 55 #[.pointer (some ⟨d.p, 0, none⟩), .int .i64 block, .int .i64 page] w fun e w' => ∃ a m cap, e = .returned (.tuple #[.slice a m cap, .int .i64 (d.read block page).2]) ∧ DGot w w' (d.read block page).1 a m := by
  have ha := d_asked h block
  have c4 := d_len h
  have c1 : w.cell? ⟨d.p, 1, none⟩ = some (.int .i64 d.gp) := h.chip.cell (by rfl)
  have c2 : w.cell? ⟨d.p, 2, none⟩ = some (.int .i64 d.gz) := h.chip.cell (by rfl)
  unfold DS.asked at ha
  by_cases ho : d.off = true
  · rw [if_pos ho] at ha
    rw [dread_off block page ho]
    clear ho h
    go_enter Tryz.func55, Tryz.ntmps55
    go_wp2_with (go_at_call 82; refine ha.mono ?_; rintro e w' ⟨rfl, rfl⟩)
    go_ret2
    exact ⟨_, 0, 0, rfl, rfl, .inl rfl, Below.refl _ _⟩
  · rw [if_neg ho] at ha
    cases hb : d.at block with
    | none =>
      rw [hb] at ha
      rw [dread_none block page ho hb]
      clear ho h hb
      go_enter Tryz.func55, Tryz.ntmps55
      go_wp2_with (go_at_call 82; refine ha.mono ?_; rintro e w' ⟨rfl, rfl⟩)
      go_ret2
      exact ⟨_, 0, 0, rfl, rfl, .inl rfl, Below.refl _ _⟩
    | some b =>
      rw [hb] at ha
      obtain ⟨hb1, hb2⟩ := dat_some hb
      have hbm : b ∈ d.bks := List.mem_of_getElem? hb1
      obtain ⟨l1, l2, l3, _, _⟩ := h.good.plen b hbm
      obtain ⟨_, _, _, _, z1, z2⟩ := h.good.gs
      obtain ⟨i, rfl⟩ : ∃ i : Nat, block = i := ⟨block.toNat, by omega⟩
      simp only [Int.toNat_natCast] at hb1
      have hil : (i : Int) < (d.bks.length : Int) := by have := (List.getElem?_eq_some_iff.1 hb1).1; omega
      have b0 := (DAt.of h.bks hb1).list
      by_cases hp : 0 ≤ page ∧ page < (d.gp : Int)
      · obtain ⟨k, rfl⟩ : ∃ k : Nat, page = k := ⟨page.toNat, by omega⟩
        have hk : k < b.pgs.length := by omega
        have er : d.read i k = (b.pgs[k].bytes d.gz, b.pgs[k].err) := by rw [dread_at i k ho hb, if_neg (by omega), show ((k : Int).toNat) = k from rfl, List.getElem?_eq_getElem hk]
        rw [er]
        clear er
        obtain ⟨g0, g1, g2⟩ := dp_cells (h.pgs b hbm).1 hk
        have hok := (h.pgs b hbm).2 _ (List.getElem_mem hk)
        have hdl := h.good.dat b hbm _ (List.getElem_mem hk)
        have k1 : ¬ (k : Int) < 0 := by omega
        have k2 : ¬ (d.gp : Int) ≤ (k : Int) := by omega
        have hkl : (k : Int) < (b.pgs.length : Int) := by omega
        have hrl := (h.pgs b hbm).1.lt
        have hpl := h.chip.lt
        have hql := h.bks.lt
        generalize hpg : b.pgs[k] = pg at *
        clear hpg hk
        generalize b.pgs.length = bl at *
        generalize d.bks.length = dl at *
        unfold DPg.bytes DPg.err
        cases hsp : pg.spoilt with
        | true =>
          rw [if_pos rfl, if_pos rfl]
          rw [hsp] at g1
          clear ho h hb hb1 hbm hp hok hdl l1
          go_enter Tryz.func55, Tryz.ntmps55
          go_wp2_with (go_at_call 82; refine ha.mono ?_; rintro e w' ⟨rfl, rfl⟩)
          go_ret2
          exact ⟨_, 0, 0, rfl, rfl, .inl rfl, below_new w _⟩
        | false =>
          rw [if_neg (by decide), if_neg (by decide)]
          rw [hsp] at g1
          have HOK : Hid (DOk w pg) := hok
          obtain ⟨i0, hi, hz0, hz1, hz2⟩ := info_parts info8
          obtain ⟨dn, hdn⟩ : ∃ dn, dn = pg.data.length := ⟨_, rfl⟩
          have HDN : Hid (dn = pg.data.length) := hdn
          rw [← hdn] at hdl ⊢
          have HE : Hid (((w.alloc (.cells #[.bool pg.done, .bool false, .slice pg.da pg.dl pg.dc] 132)).alloc (.cells #[] 5)).ownsRow w.heap.size 5 1 (.slice (some ⟨w.heap.size + 1, 0, none⟩) 0 0) 0 []) := by
            have := own_empty (w.alloc (.cells #[.bool pg.done, .bool false, .slice pg.da pg.dl pg.dc] 132)) w.heap.size (by simp)
            rw [World.size_alloc] at this
            exact this
          have hbA : Below w.heap.size w ((w.alloc (.cells #[.bool pg.done, .bool false, .slice pg.da pg.dl pg.dc] 132)).alloc (.cells #[] 5)) := Below.after (below_new w _) (below_new _ _)
          have HRW : Hid (BRow ((w.alloc (.cells #[.bool pg.done, .bool false, .slice pg.da pg.dl pg.dc] 132)).alloc (.cells #[] 5)) pg.da pg.data) := hok.row.later hbA
          have hlen := hok.len
          have HB1 : Hid (0 + pg.dl ≤ maxLen) := by show _ ≤ _; rw [hlen, ← hdn]; unfold maxLen; omega
          have HB2 : Hid ((0 + pg.dl) * 1 ≤ 140737488355328) := by show _ ≤ _; rw [hlen, ← hdn]; omega
          have HB3 : Hid (w.heap.size ≤ ((w.alloc (.cells #[.bool pg.done, .bool false, .slice pg.da pg.dl pg.dc] 132)).alloc (.cells #[] 5)).heap.size) := hbA.size
          have HDL : Hid (pg.dl = dn) := hlen.trans hdn.symm
          clear ho h hb hb1 hbm hp hok l1 hdn hlen
          go_enter Tryz.func55, Tryz.ntmps55
          go_wp2_with (first
            | (go_at_call 82; refine ha.mono ?_; rintro e w' ⟨rfl, rfl⟩)
            | (at_builtin; refine wpList_append_bytes rfl _ _ rfl w.heap.size _ 0 [] rfl HE.out pg.da pg.dl pg.dc pg.data rfl HOK.out.len HRW.out HOK.out.nil HB1.out HB2.out HB3.out ?_; intro v1 w1 hown hgrow))
          have hown1 : w1.ownsRow w.heap.size 5 1 v1 dn (pg.data.map u8v) := by
            have := hown
            rw [Nat.zero_add, HDL.out, List.nil_append] at this
            exact this
          have hb1 : Below w.heap.size w w1 := hbA.grown hgrow hbA.size (fun j hj => by have h9 : some (w.heap.size + 1) = some j := hj; simp at h9; omega)
          clear hown hgrow HE HRW HB1 HB2 HB3
          obtain ⟨a1, cap1, rfl, _, _, _, _⟩ := own_shape' HDN.out hown1
          have HO1 : Hid (w1.ownsRow w.heap.size 5 1 (.slice a1 dn cap1) dn (pg.data.map u8v)) := hown1
          clear hown1
          go_loopg [10] (d.gz - dn) (fun gm s10 wr => ∃ k a2 cap2, dn ≤ k ∧ k ≤ d.gz ∧ gm = d.gz - k ∧ s10 = .slice a2 k cap2 ∧ Hid (wr.ownsRow w.heap.size 5 1 (.slice a2 k cap2) k ((pg.data ++ List.replicate (k - dn) 255).map u8v)) ∧ Below w.heap.size w wr)
          case atStart => exact ⟨dn, a1, cap1, Nat.le_refl _, hdl, rfl, rfl, by show World.ownsRow _ _ _ _ _ _ _; simpa using HO1.out, hb1⟩
          case round =>
            obtain ⟨k2, a2, cap2, hk1, hk2, rfl, rfl, HO, hbr⟩ := hrel
            have c2r : wr.cell? ⟨d.p, 2, none⟩ = some (.int .i64 d.gz) := by rw [hbr.cell (p := ⟨d.p, 2, none⟩) hpl]; exact c2
            by_cases hlt : k2 < d.gz
            · have hli : (k2 : Int) < (d.gz : Int) := by omega
              have hrow := HO.out
              have hbs := hbr.size
              go_wp2_with (at_builtin; refine wpList_append_own _ rfl _ _ 35 rfl w.heap.size 5 i0 (.int .u8 0) 1 1 Tryz.underlying35 hi hz0 hz1 hz2 rfl (by decide) _ _ _ rfl (hrow.alloc _) ⟨wr.heap.size, 0, none⟩ 1 1 [.int .u8 255] rfl rfl (one_new _ _ _) (by simp [Value.oneCell']) (by unfold maxLen; omega) (by omega) (by simp; omega) ?_; intro v' w5 hown' hgrow _; obtain ⟨a5, cap5, rfl⟩ := own_form' hown')
              go_roundg (d.gz - (k2 + 1))
              case measure => omega
              case rel =>
                refine ⟨k2 + 1, a5, cap5, by omega, by omega, rfl, rfl, ?_, ?_⟩
                · show World.ownsRow _ _ _ _ _ _ _
                  have e : (pg.data ++ List.replicate (k2 + 1 - dn) 255).map u8v = (pg.data ++ List.replicate (k2 - dn) 255).map u8v ++ [.int .u8 255] := by
                    rw [show k2 + 1 - dn = (k2 - dn) + 1 by omega, List.replicate_succ', ← List.append_assoc, List.map_append]
                    rfl
                  rw [e]
                  exact hown'
                · exact (hbr.alloc hbs _).grown hgrow (by simp; omega) (fun j hj => (hrow.lt j hj).1)
            · obtain rfl : k2 = d.gz := by omega
              go_wp2
              go_ret2
              obtain ⟨a6, cap6, e6, hr6, _⟩ := own_shape' (l := pg.data ++ List.replicate (d.gz - dn) 255) (by simp [← HDN.out]; omega) HO.out
              cases e6
              exact ⟨a2, _, cap2, rfl, by simp [← HDN.out]; omega, hr6, hbr⟩
      · have e : d.read i page = ([], 22) := by
          rw [dread_at i page ho hb]
          split
          · rfl
          · rw [List.getElem?_eq_none (by omega)]
        rw [e]
        by_cases h0 : page < 0
        · clear ho h hb hb1 hbm hp e
          go_enter Tryz.func55, Tryz.ntmps55
          go_wp2_with (go_at_call 82; refine ha.mono ?_; rintro e w' ⟨rfl, rfl⟩)
          go_ret2
          exact ⟨_, 0, 0, rfl, rfl, .inl rfl, Below.refl _ _⟩
        · have h1 : (d.gp : Int) ≤ page := by omega
          clear ho h hb hb1 hbm hp e
          go_enter Tryz.func55, Tryz.ntmps55
          go_wp2_with (go_at_call 82; refine ha.mono ?_; rintro e w' ⟨rfl, rfl⟩)
          go_ret2
          exact ⟨_, 0, 0, rfl, rfl, .inl rfl, Below.refl _ _⟩
end Go.Proofs.YteoakhfofnocfaaGreatDoor
namespace Go.Proofs.YteoakhfofnocfaaGreatDoor
open Go.RowKit
set_option maxRecDepth 10000

theorem db_bad {W : World} {q i : Nat} {l : List DBk} {b : DBk} {t : TypeId} (b' : DBk) (h : Row W q (l.flatMap dbCells) t) (hi : l[i]? = some b) (e : (dbCells b).set 2 (.bool b'.bad) = dbCells b') : Row (W.setCell ⟨q, i * 4 + 2, none⟩ (.bool b'.bad)) q ((l.set i b').flatMap dbCells) t := by
  have hlen := flat_len dbCells 4 db_len l
  have hlt := (List.getElem?_eq_some_iff.1 hi).1
  have := h.set (i := i * 4 + 2) (.bool b'.bad) (by omega)
  rw [flat_set dbCells 4 db_len 2 (by decide) _ b' l i b hi e] at this
  exact this
theorem db_next {W : World} {q i : Nat} {l : List DBk} {b : DBk} {t : TypeId} (b' : DBk) (h : Row W q (l.flatMap dbCells) t) (hi : l[i]? = some b) (e : (dbCells b).set 1 (.int .i64 b'.next) = dbCells b') : Row (W.setCell ⟨q, i * 4 + 1, none⟩ (.int .i64 b'.next)) q ((l.set i b').flatMap dbCells) t := by
  have hlen := flat_len dbCells 4 db_len l
  have hlt := (List.getElem?_eq_some_iff.1 hi).1
  have := h.set (i := i * 4 + 1) (.int .i64 b'.next) (by omega)
  rw [flat_set dbCells 4 db_len 1 (by decide) _ b' l i b hi e] at this
  exact this
theorem db_erases {W : World} {q i : Nat} {l : List DBk} {b : DBk} {t : TypeId} (b' : DBk) (h : Row W q (l.flatMap dbCells) t) (hi : l[i]? = some b) (e : (dbCells b).set 3 (.int .i64 b'.erases) = dbCells b') : Row (W.setCell ⟨q, i * 4 + 3, none⟩ (.int .i64 b'.erases)) q ((l.set i b').flatMap dbCells) t := by
  have hlen := flat_len dbCells 4 db_len l
  have hlt := (List.getElem?_eq_some_iff.1 hi).1
  have := h.set (i := i * 4 + 3) (.int .i64 b'.erases) (by omega)
  rw [flat_set dbCells 4 db_len 3 (by decide) _ b' l i b hi e] at this
  exact this
theorem DGood.set {d : DS} {i : Nat} {b' : DBk} (h : DGood d) (h1 : b'.pgs.length = d.gp ∧ d.gp ≤ b'.cap ∧ b'.cap ≤ maxLen ∧ 0 ≤ b'.next ∧ b'.next ≤ d.gp) (h2 : ∀ p ∈ b'.pgs, p.data.length ≤ d.gz) : DGood { d with bks := d.bks.set i b' } := by
  refine ⟨by simpa using h.len, ?_, h.qc, h.gs, ?_, h.pln⟩
  · intro x hx
    rcases List.mem_or_eq_of_mem_set hx with hx | rfl
    · exact h.plen x hx
    · exact h1
  · intro x hx
    rcases List.mem_or_eq_of_mem_set hx with hx | rfl
    · exact h.dat x hx
    · exact h2
/-- What Mark answers, and the chip behind it. -/
def DS.mark (d : DS) (block : Int) : Int × DS := if d.off = true then (6, d) else match d.at block with
  | none => (22, d)
  | some b => (0, { d with bks := d.bks.set block.toNat { b with bad := true } })
theorem d_mark {base : Nat} {w : World} {d : DS} (h : DLies base w d) (block : Int) :
    Calls Tryz.prog 41 #[.pointer (some ⟨d.p, 0, none⟩), .int .i64 block] w fun e w' => e = .returned (.int .i64 (d.mark block).1) ∧ DLies base w' (d.mark block).2 ∧ Kept d.foot w w' ∧ (d.mark block).2.foot = d.foot := by
  have ha := d_asked h block
  have c4 := d_len h
  unfold DS.asked at ha
  unfold DS.mark
  by_cases ho : d.off = true
  · rw [if_pos ho] at ha ⊢
    clear ho
    go_enter Tryz.func41, Tryz.ntmps41
    go_wp2_with (go_at_call 82; refine ha.mono ?_; rintro e w' ⟨rfl, rfl⟩)
    go_ret
    exact ⟨rfl, h, Kept.refl _ _, trivial⟩
  · rw [if_neg ho] at ha ⊢
    cases hb : d.at block with
    | none =>
      rw [hb] at ha
      clear ho hb
      go_enter Tryz.func41, Tryz.ntmps41
      go_wp2_with (go_at_call 82; refine ha.mono ?_; rintro e w' ⟨rfl, rfl⟩)
      go_ret
      exact ⟨rfl, h, Kept.refl _ _, trivial⟩
    | some b =>
      rw [hb] at ha
      obtain ⟨hb1, hb2⟩ := dat_some hb
      have hbm : b ∈ d.bks := List.mem_of_getElem? hb1
      obtain ⟨i, rfl⟩ : ∃ i : Nat, block = i := ⟨block.toNat, by omega⟩
      simp only [Int.toNat_natCast] at hb1 ⊢
      have hil : (i : Int) < (d.bks.length : Int) := by have := (List.getElem?_eq_some_iff.1 hb1).1; omega
      have c2 := (DAt.of h.bks hb1).bad
      have f2 := h.bks.frozen (i * 4 + 2)
      have fin : ∀ W, W = w.setCell ⟨d.q, i * 4 + 2, none⟩ (.bool true) → DLies base W { d with bks := d.bks.set i { b with bad := true } } ∧ Kept d.foot w W ∧ ({ d with bks := d.bks.set i { b with bad := true } } : DS).foot = d.foot := by
        rintro W rfl
        have hq : Row (w.setCell ⟨d.q, i * 4 + 2, none⟩ (.bool true)) d.q _ _ := db_bad { b with bad := true } h.bks hb1 rfl
        have hk : Kept (fun k => k = d.p ∨ k = d.q ∨ k = b.r) w (w.setCell ⟨d.q, i * 4 + 2, none⟩ (.bool true)) := (Kept.refl _ w).setCell (p := ⟨d.q, i * 4 + 2, none⟩) (.inr (.inl rfl)) _
        have hk1 : Kept (fun k => k = d.q) w (w.setCell ⟨d.q, i * 4 + 2, none⟩ (.bool true)) := (Kept.refl (fun k => k = d.q) w).setCell (p := ⟨d.q, i * 4 + 2, none⟩) rfl _
        have hpq := h.chip.ne h.bks (by decide)
        have h1' : Row (w.setCell ⟨d.q, i * 4 + 2, none⟩ (.bool true)) d.p (dsCells { d with bks := d.bks.set i { b with bad := true } }) 84 := by
          have : dsCells { d with bks := d.bks.set i { b with bad := true } } = dsCells d := by simp [dsCells]
          rw [this]; exact h.chip.other _ _ hpq
        exact h.step rfl rfl ⟨rfl, rfl⟩ hb1 rfl rfl (h.good.set (h.good.plen b hbm) (h.good.dat b hbm)) hk h1' hq ((h.pgs b hbm).1.other _ _ (fun e => (h.pgs b hbm).1.ne h.bks (by decide) e)) (fun p hp => ((h.pgs b hbm).2 p hp).kept hk1 (fun x cs hx e => hx.ne h.bks (by decide) e))
      clear ho hb hb1 hb2 hbm
      go_enter Tryz.func41, Tryz.ntmps41
      go_wp2_with (go_at_call 82; refine ha.mono ?_; rintro e w' ⟨rfl, rfl⟩)
      go_ret
      exact ⟨rfl, fin _ rfl⟩
end Go.Proofs.YteoakhfofnocfaaGreatDoor
namespace Go.Proofs.YteoakhfofnocfaaGreatDoor
open Go.RowKit
set_option maxRecDepth 10000

/-- The fault of an operation, as the document finds it. -/
def findF (s : Int) : List Flt → Flt
  | [] => ⟨0, 0, 2⟩
  | g :: l => if g.num = s then g else findF s l
theorem findF_here {s : Int} {l : List Flt} {k : Nat} {f : Flt} (hk : l[k]? = some f) (hf : f.num = s) (h : ∀ j g, j < k → l[j]? = some g → g.num ≠ s) : findF s l = f := by
  induction l generalizing k with
  | nil => simp at hk
  | cons a l ih =>
    unfold findF
    cases k with
    | zero => simp at hk; subst hk; rw [if_pos hf]
    | succ k =>
      rw [if_neg (h 0 a (by omega) rfl)]
      exact ih (by simpa using hk) (fun j g hj hg => h (j + 1) g (by omega) (by simpa using hg))
theorem findF_none {s : Int} {l : List Flt} (h : ∀ (j : Nat) (g : Flt), l[j]? = some g → g.num ≠ s) : findF s l = ⟨0, 0, 2⟩ := by
  induction l with
  | nil => rfl
  | cons a l ih =>
    unfold findF
    rw [if_neg (h 0 a rfl)]
    exact ih (fun j g hg => h (j + 1) g (by simpa using hg))
def DS.counted (d : DS) : DS := { d with ops := wrap64 (d.ops + 1) }
def DS.flt (d : DS) : Flt := findF (wrap64 (wrap64 (d.ops + 1) - d.since)) d.plan
theorem fault_results (tmps : Array Value) (R : Nat) (v0 v1 v2 : Value) (W : World) (h2 : tmps[2]?.getD undef = .pointer (some ⟨R, 0, none⟩)) (t0 : W.cell? ⟨R, 0, none⟩ = some v0) (t1 : W.cell? ⟨R, 1, none⟩ = some v1) (t2 : W.cell? ⟨R, 2, none⟩ = some v2) :
    (results Tryz.f83 tmps).run Tryz.prog W = .ok (.agg #[v0, v1, v2]) W := by
  simp [results, Tryz.f83, go_sem, h2, t0, t1, t2]
set_option maxHeartbeats 4000000 in
theorem d_fault {base : Nat} {w : World} {d : DS} (h : DLies base w d) :
    Calls Tryz.prog 83 #[.pointer (some ⟨d.p, 0, none⟩)] w fun e w' => e = .returned (.agg #[.int .i64 d.flt.num, .int .i64 d.flt.kind, .int .i64 d.flt.torn]) ∧ DLies base w' d.counted ∧ Kept (fun k => k = d.p) w w' := by
  have c8 : w.cell? ⟨d.p, 8, none⟩ = some (.int .i64 d.ops) := h.chip.cell (by rfl)
  have f8 := h.chip.frozen 8
  obtain ⟨hm, hm2, _⟩ := h.good.pln
  have hp : d.p < w.heap.size := h.chip.lt
  have HC : Hid (∀ W, W = (w.setCell ⟨d.p, 8, none⟩ (.int .i64 (wrap64 (d.ops + 1)))).alloc (.cells #[.int .i64 0, .int .i64 0, .int .i64 0] 121) → DLies base W d.counted ∧ Kept (fun k => k = d.p) w W ∧ Row W w.heap.size [.int .i64 0, .int .i64 0, .int .i64 0] 121) := by
    rintro W rfl
    have hk : Kept (fun k => k = d.p) w (w.setCell ⟨d.p, 8, none⟩ (.int .i64 (wrap64 (d.ops + 1)))) := (Kept.refl (fun k => k = d.p) _).setCell (p := ⟨d.p, 8, none⟩) rfl _
    have h1 := (h.step0 (d' := d.counted) rfl rfl ⟨rfl, rfl⟩ rfl ⟨h.good.len, h.good.plen, h.good.qc, h.good.gs, h.good.dat, h.good.pln⟩ hk (h.chip.set (i := 8) (.int .i64 (wrap64 (d.ops + 1))) (by simp [dsCells]))).1
    refine ⟨h1.later (below_new _ _), hk.alloc _, ?_⟩
    have := Row.new (w.setCell ⟨d.p, 8, none⟩ (.int .i64 (wrap64 (d.ops + 1)))) [.int .i64 0, .int .i64 0, .int .i64 0] 121
    simpa using this
  have HFin : Hid (∀ W v0 v1 v2, DLies base W d.counted → Kept (fun k => k = d.p) w W → Row W w.heap.size [.int .i64 0, .int .i64 0, .int .i64 0] 121 →
      DLies base (((W.setCell ⟨w.heap.size, 0, none⟩ v0).setCell ⟨w.heap.size, 1, none⟩ v1).setCell ⟨w.heap.size, 2, none⟩ v2) d.counted ∧ Kept (fun k => k = d.p) w (((W.setCell ⟨w.heap.size, 0, none⟩ v0).setCell ⟨w.heap.size, 1, none⟩ v1).setCell ⟨w.heap.size, 2, none⟩ v2) ∧ Row (((W.setCell ⟨w.heap.size, 0, none⟩ v0).setCell ⟨w.heap.size, 1, none⟩ v1).setCell ⟨w.heap.size, 2, none⟩ v2) w.heap.size [v0, v1, v2] 121) := by
    intro W v0 v1 v2 h1 h2 h3
    have hkR : Kept (fun k => k = w.heap.size) W (((W.setCell ⟨w.heap.size, 0, none⟩ v0).setCell ⟨w.heap.size, 1, none⟩ v1).setCell ⟨w.heap.size, 2, none⟩ v2) :=
      (((Kept.refl (fun k => k = w.heap.size) W).setCell (p := ⟨w.heap.size, 0, none⟩) rfl _).setCell (p := ⟨w.heap.size, 1, none⟩) rfl _).setCell (p := ⟨w.heap.size, 2, none⟩) rfl _
    refine ⟨h1.kept hkR ?_ (fun b cs hb e => hb.ne h3 (by decide) e) (fun b o e hl q => ?_), ?_, ((h3.set (i := 0) v0 (by simp)).set (i := 1) v1 (by simp)).set (i := 2) v2 (by simp)⟩
    · rintro k (rfl | rfl | hk) e
      · exact h1.chip.ne h3 (by decide) e
      · exact h1.bks.ne h3 (by decide) e
      · obtain ⟨x, hx, rfl⟩ := List.mem_map.1 hk
        exact (h1.pgs x hx).1.ne h3 (by decide) e
    · have := (h.plan.2 b o e hl).2
      omega
    · exact ((h2.setNew (p := ⟨w.heap.size, 0, none⟩) (Nat.le_refl _) _).setNew (p := ⟨w.heap.size, 1, none⟩) (Nat.le_refl _) _).setNew (p := ⟨w.heap.size, 2, none⟩) (Nat.le_refl _) _
  have HG : Hid (∀ W, DLies base W d.counted → W.cell? ⟨d.p, 6, none⟩ = some (.slice d.pa d.pl d.pc) ∧ W.cell? ⟨d.p, 7, none⟩ = some (.int .i64 d.since) ∧ W.cell? ⟨d.p, 8, none⟩ = some (.int .i64 (wrap64 (d.ops + 1))) ∧ FRow W d.pa d.plan) :=
    fun W hW => ⟨hW.chip.cell (i := 6) rfl, hW.chip.cell (i := 7) rfl, hW.chip.cell (i := 8) rfl, hW.plan.1⟩
  have HM : Hid (d.pl = d.plan.length) := hm
  obtain ⟨s, hs⟩ : ∃ s, s = wrap64 (wrap64 (d.ops + 1) - d.since) := ⟨_, rfl⟩
  have HS : Hid (s = wrap64 (wrap64 (d.ops + 1) - d.since)) := hs
  have hft : d.flt = findF s d.plan := by unfold DS.flt; rw [← hs]
  rw [hft]
  clear hs hft hm h
  generalize hpp : d.p = p at *
  generalize hpa : d.pa = pa at *
  generalize hpc : d.pc = pc at *
  generalize hpl : d.pl = m at *
  generalize hop : d.ops = ops at *
  generalize hsi : d.since = since at *
  clear hpp hpa hpc hpl hop hsi
  go_enter Tryz.func83, Tryz.ntmps83
  go_wp2
  obtain ⟨hd1, hk1, hr1⟩ := HC.out _ rfl
  go_loopg [3] m (fun gm s3 wr => ∃ k : Nat, k ≤ m ∧ gm = m - k ∧ s3 = .int .i64 k ∧ Hid (∀ j g, j < k → d.plan[j]? = some g → g.num ≠ s) ∧ Hid (DLies base wr d.counted) ∧ Hid (Kept (fun k => k = p) w wr) ∧ Row wr w.heap.size [.int .i64 0, .int .i64 0, .int .i64 0] 121)
  case atStart => exact ⟨0, Nat.zero_le _, rfl, rfl, fun j g hj => absurd hj (by omega), hd1, hk1, hr1⟩
  case round =>
    obtain ⟨k, hk, rfl, rfl, HN, HD, HK, hrr⟩ := hrel
    have r0 := hrr.cell (i := 0) rfl
    have r1 := hrr.cell (i := 1) rfl
    have r2 := hrr.cell (i := 2) rfl
    have q0 := hrr.frozen 0
    have q1 := hrr.frozen 1
    have q2 := hrr.frozen 2
    obtain ⟨c6, c7, c8, hrow⟩ := HG.out wr HD.out
    by_cases hlt : k < m
    · have hli : (k : Int) < (m : Int) := by omega
      obtain ⟨f, hf⟩ : ∃ f, d.plan[k]? = some f := ⟨d.plan[k]'(by rw [← HM.out]; exact hlt), List.getElem?_eq_getElem _⟩
      obtain ⟨b, off, rfl, hc⟩ : ∃ b off, pa = some ⟨b, off, none⟩ ∧ ∀ i f, d.plan[i]? = some f → wr.cell? ⟨b, off + i * 3, none⟩ = some (.int .i64 f.num) ∧ wr.cell? ⟨b, off + i * 3 + 1, none⟩ = some (.int .i64 f.kind) ∧ wr.cell? ⟨b, off + i * 3 + 2, none⟩ = some (.int .i64 f.torn) := by
        rcases hrow with e | e
        · rw [e] at hf; simp at hf
        · exact e
      obtain ⟨g0, g1, g2⟩ := hc k f hf
      have HF : Hid (d.plan[k]? = some f) := hf
      by_cases hn : f.num = s
      · have e1 : (f.num == wrap64 (wrap64 (ops + 1) - since)) = true := by rw [← HS.out]; simpa using hn
        have he : findF s d.plan = f := findF_here hf hn HN.out
        have HE : Hid (findF s d.plan = f) := he
        clear hc hf hn he hrow
        go_wp2
        go_quiet (fail)
        go_wp2
        obtain ⟨z1, z2, z3⟩ := HFin.out (wr.drewN nq) (.int .i64 f.num) (.int .i64 f.kind) (.int .i64 f.torn) (HD.out.later (below_drawn _ _)) (HK.out.drewN _) (hrr.drewN _)
        have t0 := z3.cell (i := 0) rfl
        have t1 := z3.cell (i := 1) rfl
        have t2 := z3.cell (i := 2) rfl
        rw [HE.out]
        refine bodyPost_ret (v := .agg #[.int .i64 f.num, .int .i64 f.kind, .int .i64 f.torn]) ?_ rfl ⟨rfl, z1, z2⟩
        exact fault_results _ w.heap.size (.int .i64 f.num) (.int .i64 f.kind) (.int .i64 f.torn) _ rfl t0 t1 t2
      · have e1 : (f.num == wrap64 (wrap64 (ops + 1) - since)) = false := by rw [← HS.out]; simpa using hn
        have HNn : Hid (f.num ≠ s) := hn
        clear hc hf hn hrow g1 g2
        go_wp2
        go_quiet (fail)
        go_wp2
        go_roundg (m - (k + 1))
        case measure => omega
        case rel =>
          refine ⟨k + 1, by omega, rfl, rfl, ?_, HD.out.later (below_drawn _ _), HK.out.drewN _, hrr.drewN _⟩
          intro j g hj hg
          by_cases hjk : j = k
          · subst hjk
            have := HF.out.symm.trans hg
            cases this
            exact HNn.out
          · exact HN.out j g (by omega) hg
    · obtain rfl : k = m := by omega
      have he : findF s d.plan = ⟨0, 0, 2⟩ := findF_none (fun j g hg => HN.out j g (by have := (List.getElem?_eq_some_iff.1 hg).1; rw [HM.out]; exact this) hg)
      have HE : Hid (findF s d.plan = ⟨0, 0, 2⟩) := he
      clear hrow he
      go_wp2
      obtain ⟨z1, z2, z3⟩ := HFin.out wr (.int .i64 0) (.int .i64 0) (.int .i64 2) HD.out HK.out hrr
      have t0 := z3.cell (i := 0) rfl
      have t1 := z3.cell (i := 1) rfl
      have t2 := z3.cell (i := 2) rfl
      rw [HE.out]
      refine bodyPost_ret (v := .agg #[.int .i64 0, .int .i64 0, .int .i64 2]) ?_ rfl ⟨rfl, z1, z2⟩
      exact fault_results _ w.heap.size (.int .i64 0) (.int .i64 0) (.int .i64 2) _ rfl t0 t1 t2
end Go.Proofs.YteoakhfofnocfaaGreatDoor
namespace Go.Proofs.YteoakhfofnocfaaGreatDoor
open Go.RowKit
set_option maxRecDepth 10000

/-- What the document's power says, in k halvings at most. -/
def powD : Nat → Int → Bool
  | 0, n => n == 1
  | k + 1, n => if 1 < n ∧ n % 2 = 0 then powD k (n / 2) else n == 1
theorem powD_stop {k : Nat} {n : Int} (h : ¬ (1 < n ∧ n % 2 = 0)) : powD k n = (n == 1) := by
  cases k with
  | zero => rfl
  | succ k => unfold powD; rw [if_neg h]
theorem half_wrap {k : Int} (h1 : 1 < k) (h2 : k ≤ 9223372036854775807) : wrap64 (k.tdiv 2) = k / 2 := by
  rw [Int.tdiv_eq_ediv_of_nonneg (by omega)]
  unfold wrap64
  omega
set_option maxHeartbeats 2000000 in
theorem d_pow (n : Int) (h2 : n ≤ 9223372036854775807) (w : World) : Calls Tryz.prog 81 #[.int .i64 n] w fun e w' => e = .returned (.bool (powD n.toNat n)) ∧ w = w' := by
  obtain ⟨B, hB⟩ : ∃ B, powD n.toNat n = B := ⟨_, rfl⟩
  rw [hB]
  have HB : Hid (powD n.toNat n = B) := hB
  have H2 : Hid (n ≤ 9223372036854775807) := h2
  clear hB h2
  go_enter Tryz.func81, Tryz.ntmps81
  go_wp2
  go_loopg [0] n.toNat (fun gm s0 wr => ∃ k : Int, s0 = .int .i64 k ∧ Hid (k.toNat ≤ gm ∧ k ≤ 9223372036854775807 ∧ powD gm k = B) ∧ w = wr)
  case atStart => exact ⟨n, rfl, ⟨Nat.le_refl _, H2.out, HB.out⟩, rfl⟩
  case round =>
    obtain ⟨k, rfl, HK, rfl⟩ := hrel
    by_cases h1 : 1 < k
    · have hm : k.tmod 2 = k % 2 := Int.tmod_eq_emod_of_nonneg (by omega)
      have hw1 : IntKind.i64.wrap (k % 2) = k % 2 := by rw [IntKind.wrap_i64]; omega
      by_cases h0 : k % 2 = 0
      · have e0 : (k % 2 == 0) = true := by simpa using h0
        have HQ : Hid (k % 2 = 0) := h0
        have hw2 := half_wrap h1 HK.out.2.1
        clear h0
        go_wp2
        go_roundg (gk - 1)
        case measure => have := HK.out.1; omega
        case rel =>
          refine ⟨k / 2, ?_, ⟨?_, ?_, ?_⟩, rfl⟩
          · rw [hw2]
          · have := HK.out.1; omega
          · have := HK.out.2.1; omega
          · obtain ⟨j, rfl⟩ : ∃ j, gk = j + 1 := ⟨gk - 1, by have := HK.out.1; omega⟩
            have := HK.out.2.2
            unfold powD at this
            rw [if_pos ⟨h1, HQ.out⟩] at this
            exact this
      · have e0 : (k % 2 == 0) = false := by simpa using h0
        have hs := powD_stop (k := gk) (n := k) (fun q => h0 q.2)
        have HS : Hid ((k == 1) = B) := hs.symm.trans HK.out.2.2
        clear h0 hs
        go_wp2
        go_ret
        exact ⟨by rw [← HS.out]; rfl, rfl⟩
    · have hs := powD_stop (k := gk) (n := k) (fun q => h1 q.1)
      have HS : Hid ((k == 1) = B) := hs.symm.trans HK.out.2.2
      clear hs
      go_wp2
      go_ret
      exact ⟨by rw [← HS.out]; rfl, rfl⟩
end Go.Proofs.YteoakhfofnocfaaGreatDoor
namespace Go.Proofs.YteoakhfofnocfaaGreatDoor
open Go.RowKit
set_option maxRecDepth 10000

structure APg where
  spoilt : Bool
  data : List Nat
structure ABk where
  pgs : List APg
  next : Int
  bad : Bool
  erases : Int
structure AS where
  gb : Nat
  gp : Nat
  gz : Nat
  gr : Nat
  bks : List ABk
  off : Bool
  plan : List Flt
  since : Int
  ops : Int
  wrong : Int
def DPg.abs (p : DPg) : APg := ⟨p.spoilt, p.data⟩
def DBk.abs (b : DBk) : ABk := ⟨b.pgs.map DPg.abs, b.next, b.bad, b.erases⟩
def DS.abs (d : DS) : AS := ⟨d.gb, d.gp, d.gz, d.gr, d.bks.map DBk.abs, d.off, d.plan, d.since, d.ops, d.wrong⟩
/-- How much of an operation is done; what it answers. -/
def Flt.ext (f : Flt) : Int := if f.kind = 2 then 1 else f.torn
def Flt.says (f : Flt) : Int := if f.kind = 1 then 6 else if f.kind = 2 then 5 else 0
def AS.at (a : AS) (n : Int) : Option ABk := if n < 0 then none else a.bks[n.toNat]?
def AS.flt (a : AS) : Flt := findF (wrap64 (wrap64 (a.ops + 1) - a.since)) a.plan
/-- The chip when an operation has begun. -/
def AS.begun (a : AS) : AS := { a with ops := wrap64 (a.ops + 1), off := if a.flt.kind = 1 then true else a.off }
def ABk.programmed (b : ABk) (data : List Nat) (x : Int) : ABk :=
  if x = 0 then b else if x = 1 then { b with pgs := b.pgs.set b.next.toNat ⟨true, []⟩, next := b.next + 1 } else { b with pgs := b.pgs.set b.next.toNat ⟨false, data⟩, next := b.next + 1 }
def ABk.erased (b : ABk) (gp : Nat) (x : Int) : ABk :=
  if x = 0 then b else if x = 1 then { b with pgs := List.replicate gp ⟨true, []⟩, next := gp } else { b with pgs := List.replicate gp ⟨false, []⟩, next := 0 }
def AS.program (a : AS) (block page : Int) (data : List Nat) : Int × AS :=
  if a.off = true then (6, a) else match a.at block with
  | none => (22, a)
  | some b => if ¬ (0 ≤ page ∧ page < a.gp) ∨ a.gz < data.length then (22, a) else if b.bad = true ∨ page ≠ b.next then (1, { a with wrong := wrap64 (a.wrong + 1) })
    else (a.flt.says, { a.begun with bks := a.bks.set block.toNat (b.programmed data a.flt.ext) })
def AS.erase (a : AS) (block : Int) : Int × AS :=
  if a.off = true then (6, a) else match a.at block with
  | none => (22, a)
  | some b => if b.bad = true then (1, { a with wrong := wrap64 (a.wrong + 1) })
    else (a.flt.says, { a.begun with bks := a.bks.set block.toNat (({ b with erases := wrap64 (b.erases + 1) } : ABk).erased a.gp a.flt.ext) })
def AS.mark (a : AS) (block : Int) : Int × AS :=
  if a.off = true then (6, a) else match a.at block with
  | none => (22, a)
  | some b => (0, { a with bks := a.bks.set block.toNat { b with bad := true } })
theorem abs_at (d : DS) (n : Int) : d.abs.at n = (d.at n).map DBk.abs := by
  unfold AS.at DS.at DS.abs
  split
  · rfl
  · simp
theorem abs_flt (d : DS) : d.abs.flt = d.flt := rfl
/-- A fault that the document finds: one of the plan's, or none. -/
theorem findF_or (s : Int) : ∀ l : List Flt, findF s l = ⟨0, 0, 2⟩ ∨ findF s l ∈ l
  | [] => .inl rfl
  | g :: l => by
    unfold findF
    split
    · exact .inr (by simp)
    · rcases findF_or s l with h | h
      · exact .inl h
      · exact .inr (by simp [h])
theorem map_set' {α β : Type} (f : α → β) (l : List α) (i : Nat) (x : α) : (l.set i x).map f = (l.map f).set i (f x) := List.map_set
end Go.Proofs.YteoakhfofnocfaaGreatDoor
namespace Go.Proofs.YteoakhfofnocfaaGreatDoor
open Go.RowKit
set_option maxRecDepth 10000

theorem planOk_take {l : List Flt} {k : Nat} {f : Flt} (h : planOk (l.take k)) (hf : l[k]? = some f) (ho : f.ok) (hn : ∀ j g, j < k → l[j]? = some g → g.num ≠ f.num) : planOk (l.take (k + 1)) := by
  have hk := (List.getElem?_eq_some_iff.1 hf).1
  have e : l.take (k + 1) = l.take k ++ [f] := by
    rw [List.take_succ_eq_append_getElem hk]
    rw [(List.getElem?_eq_some_iff.1 hf).2]
  rw [e]
  refine ⟨?_, ?_⟩
  · intro g hg
    rcases List.mem_append.1 hg with q | q
    · exact h.1 g q
    · rw [List.mem_singleton.1 q]; exact ho
  · rw [List.map_append, List.nodup_append]
    refine ⟨h.2, by simp, ?_⟩
    intro x hx y hy
    simp at hy
    subst hy
    obtain ⟨g, hg, rfl⟩ := List.mem_map.1 hx
    obtain ⟨j, hj, rfl⟩ := List.mem_iff_getElem.1 hg
    have hj2 : j < k := by simp at hj; omega
    exact hn j _ hj2 (by rw [List.getElem?_eq_getElem (by omega)]; simp)
theorem planOk_bad {l : List Flt} {k : Nat} {f : Flt} (hf : l[k]? = some f) (ho : ¬ f.ok) : ¬ planOk l := fun h => ho (h.1 f (List.mem_of_getElem? hf))
theorem planOk_twice {l : List Flt} {j k : Nat} {f g : Flt} (hf : l[k]? = some f) (hg : l[j]? = some g) (hjk : j < k) (e : g.num = f.num) : ¬ planOk l := by
  intro h
  have h2 := h.2
  rw [List.nodup_iff_pairwise_ne, List.pairwise_iff_getElem] at h2
  obtain ⟨h3, h4⟩ := List.getElem?_eq_some_iff.1 hf
  obtain ⟨h5, h6⟩ := List.getElem?_eq_some_iff.1 hg
  exact h2 j k (by simpa using h5) (by simpa using h3) hjk (by simp [h4, h6, e])
/-- The ways in which a fault is right, or not. -/
theorem ok_ways (f : Flt) : (f.ok ∧ ¬ f.num < 1 ∧ ((f.kind = 1 ∧ (f.torn = 0 ∨ f.torn = 1 ∨ f.torn = 2)) ∨ (f.kind = 2 ∧ f.torn = 0))) ∨
    (¬ f.ok ∧ (f.num < 1 ∨ (¬ f.num < 1 ∧ (f.kind != 1) = true ∧ (f.kind != 2) = true) ∨ (¬ f.num < 1 ∧ (f.kind = 1 ∨ f.kind = 2) ∧ f.torn < 0) ∨ (¬ f.num < 1 ∧ f.kind = 1 ∧ ¬ f.torn < 0 ∧ 2 < f.torn) ∨ (¬ f.num < 1 ∧ f.kind = 2 ∧ ¬ f.torn < 0 ∧ 0 < f.torn))) := by
  unfold Flt.ok
  by_cases h1 : f.num < 1
  · right; exact ⟨by omega, .inl h1⟩
  · by_cases k1 : f.kind = 1
    · by_cases t : f.torn = 0 ∨ f.torn = 1 ∨ f.torn = 2
      · left; exact ⟨⟨by omega, .inl ⟨k1, t⟩⟩, h1, .inl ⟨k1, t⟩⟩
      · right; refine ⟨by omega, ?_⟩
        by_cases t0 : f.torn < 0
        · exact .inr (.inr (.inl ⟨h1, .inl k1, t0⟩))
        · exact .inr (.inr (.inr (.inl ⟨h1, k1, t0, by omega⟩)))
    · by_cases k2 : f.kind = 2
      · by_cases t : f.torn = 0
        · left; exact ⟨⟨by omega, .inr ⟨k2, t⟩⟩, h1, .inr ⟨k2, t⟩⟩
        · right; refine ⟨by omega, ?_⟩
          by_cases t0 : f.torn < 0
          · exact .inr (.inr (.inl ⟨h1, .inr k2, t0⟩))
          · exact .inr (.inr (.inr (.inr ⟨h1, k2, t0, by omega⟩)))
      · right; exact ⟨by omega, .inr (.inl ⟨h1, by simpa using k1, by simpa using k2⟩)⟩
open Classical in
/-- Is the plan right? -/
noncomputable def planB (l : List Flt) : Bool := decide (l.length ≤ 256 ∧ planOk l)
open Classical in
theorem planB_no {l : List Flt} (h : ¬ (l.length ≤ 256 ∧ planOk l)) : planB l = false := by unfold planB; exact decide_eq_false h
open Classical in
theorem planB_yes {l : List Flt} (h : l.length ≤ 256 ∧ planOk l) : planB l = true := by unfold planB; exact decide_eq_true h

set_option maxHeartbeats 4000000 in
theorem d_plan (a : Option Addr) (m cap : Nat) (l : List Flt) (w : World) (hm : m = l.length) (hm63 : m ≤ 9223372036854775807) (hr : FRow w a l) :
    Calls Tryz.prog 36 #[.slice a m cap] w fun e w' => e = .returned (.bool (planB l)) ∧ Below w.heap.size w w' := by
  by_cases h256 : m ≤ 256
  · have HM : Hid (m = l.length) := hm
    have HR : Hid (FRow w a l) := hr
    have hI0 : ¬ (256 : Int) < (m : Int) := by omega
    obtain ⟨B, hB⟩ : ∃ B, B = planB l := ⟨_, rfl⟩
    rw [← hB]
    have HBF : Hid (¬ planOk l → B = false) := fun q => by rw [hB]; exact planB_no (fun z => q z.2)
    have HBT : Hid (planOk l → B = true) := fun q => by rw [hB]; exact planB_yes ⟨by omega, q⟩
    clear hB hm hr
    go_enter Tryz.func36, Tryz.ntmps36
    go_wp2
    go_loopg [3] m (fun gm s3 wr => ∃ k : Nat, k ≤ m ∧ gm = m - k ∧ s3 = .int .i64 k ∧ Hid (planOk (l.take k)) ∧ Hid (Below w.heap.size w wr))
    case atStart => exact ⟨0, Nat.zero_le _, rfl, rfl, ⟨by simp, by simp⟩, Below.refl _ _⟩
    case round =>
      obtain ⟨k, hk, hgk, rfl, HP, HB⟩ := hrel
      by_cases hlt : k < m
      · obtain ⟨W, hW⟩ : ∃ W, W = wr := ⟨_, rfl⟩
        subst hW
        have hkl : k < l.length := by have := HM.out; omega
        obtain ⟨f, hf⟩ : ∃ f, l[k]? = some f := ⟨l[k], List.getElem?_eq_getElem hkl⟩
        obtain ⟨b, off, rfl, hc⟩ : ∃ b off, a = some ⟨b, off, none⟩ ∧ ∀ i f, l[i]? = some f → W.cell? ⟨b, off + i * 3, none⟩ = some (.int .i64 f.num) ∧ W.cell? ⟨b, off + i * 3 + 1, none⟩ = some (.int .i64 f.kind) ∧ W.cell? ⟨b, off + i * 3 + 2, none⟩ = some (.int .i64 f.torn) := by
          rcases frow_later HR.out HB.out with e | e
          · subst e; simp at hkl
          · exact e
        obtain ⟨g0, g1, g2⟩ := hc k f hf
        have hbl : b < W.heap.size := World.block_lt_of_cell? W _ g0
        have hI : (k : Int) < (m : Int) := by omega
        have HF : Hid (l[k]? = some f) := hf
        have HC : Hid (∀ j g, l[j]? = some g → W.cell? ⟨b, off + j * 3, none⟩ = some (.int .i64 g.num)) := fun j g hg => (hc j g hg).1
        have hsz := HB.out.size
        have HOW := ok_ways f
        obtain ⟨n, hn⟩ : ∃ n, n = f.num := ⟨_, rfl⟩
        obtain ⟨kd, hkd⟩ : ∃ kd, kd = f.kind := ⟨_, rfl⟩
        obtain ⟨td, htd⟩ : ∃ td, td = f.torn := ⟨_, rfl⟩
        rw [← hn] at g0 HOW
        rw [← hkd] at g1 HOW
        rw [← htd] at g2 HOW
        have HN : Hid (n = f.num) := hn
        clear hc hf hkl hn hkd htd
        rcases HOW with ⟨ho, hn1, hway⟩ | ⟨ho, hway⟩
        · have HOK : Hid f.ok := ho
          have hrest : (kd = 1 ∧ td = 0) ∨ (kd = 1 ∧ td = 1) ∨ (kd = 1 ∧ td = 2) ∨ (kd = 2 ∧ td = 0) := by omega
          clear hway ho
          rcases hrest with ⟨rfl, rfl⟩ | ⟨rfl, rfl⟩ | ⟨rfl, rfl⟩ | ⟨rfl, rfl⟩
          all_goals
            go_wp2
            go_loopg [5] k (fun gi s5 wi => ∃ j : Nat, j ≤ k ∧ gi = k - j ∧ s5 = .int .i64 j ∧ wi.cell? ⟨W.heap.size, 0, none⟩ = some (.int .i64 n) ∧ Hid (Below W.heap.size W wi) ∧ Hid (∀ i g, i < j → l[i]? = some g → g.num ≠ f.num))
            case atStart => exact ⟨0, Nat.zero_le _, rfl, rfl, (Row.new W [_, _, _] _).cell (i := 0) rfl, below_new _ _, fun i g hi => by omega⟩
            case round =>
              obtain ⟨j, hj, hgj, rfl, r0, HBi, HNj⟩ := hrel
              rename_i wi
              by_cases hjk : j < k
              · have hjl : j < l.length := by have := HM.out; omega
                obtain ⟨g, hg⟩ : ∃ g, l[j]? = some g := ⟨l[j], List.getElem?_eq_getElem hjl⟩
                have c0 := HC.out j g hg
                rw [← HBi.out.cell (p := ⟨b, off + j * 3, none⟩) hbl] at c0
                have HGJ : Hid (l[j]? = some g) := hg
                obtain ⟨u, hu⟩ : ∃ u, u = g.num := ⟨_, rfl⟩
                rw [← hu] at c0
                have HU : Hid (u = g.num) := hu
                have hjI : (j : Int) < (k : Int) := by omega
                have hjm : (j : Int) < (m : Int) := by omega
                clear hg hu hjl
                by_cases hun : u = n
                · have e1 : (u == n) = true := by simpa using hun
                  have HE : Hid (u = n) := hun
                  clear hun
                  go_wp2
                  go_quiet (fail)
                  go_wp2
                  go_ret
                  exact ⟨ret_bool (HBF.out (planOk_twice HF.out HGJ.out (by omega) (by rw [← HU.out, HE.out, HN.out]))).symm, (HB.out.trans (HBi.out.mono hsz)).trans ((below_drawn _ _).mono (by have := HBi.out.size; omega))⟩
                · have e1 : (u == n) = false := by simpa using hun
                  have HE : Hid (u ≠ n) := hun
                  clear hun
                  go_wp2
                  go_quiet (fail)
                  go_wp2
                  go_roundg (k - (j + 1))
                  case measure => omega
                  case rel =>
                    refine ⟨j + 1, by omega, rfl, by go_num, r0, HBi.out.trans ((below_drawn _ _).mono HBi.out.size), ?_⟩
                    intro i g' hi hg'
                    by_cases hij : i = j
                    · subst hij
                      have := HGJ.out.symm.trans hg'
                      cases this
                      rw [← HU.out, ← HN.out]
                      exact HE.out
                    · exact HNj.out i g' (by omega) hg'
              · have hjI : ¬ (j : Int) < (k : Int) := by omega
                have hje : j = k := by omega
                have HNk : Hid (∀ i g, i < k → l[i]? = some g → g.num ≠ f.num) := by have := HNj.out; rw [hje] at this; exact this
                clear hje
                go_wp2
                go_roundg (m - (k + 1))
                case measure => omega
                case rel => exact ⟨k + 1, by omega, rfl, by go_num, planOk_take HP.out HF.out HOK.out HNk.out, HB.out.trans (HBi.out.mono hsz)⟩
        · have HOK : Hid (¬ f.ok) := ho
          clear ho
          rcases hway with q | ⟨q1, q2, q3⟩ | ⟨q1, q2 | q2, q3⟩ | ⟨q1, q2, q3, q4⟩ | ⟨q1, q2, q3, q4⟩
          all_goals
            first | subst q2 | skip
            go_wp2
            go_ret
            exact ⟨ret_bool (HBF.out (planOk_bad HF.out HOK.out)).symm, HB.out.alloc hsz _⟩
      · have hI : ¬ (k : Int) < (m : Int) := by omega
        have HT : Hid (B = true) := by
          have e : k = l.length := by have := HM.out; omega
          have := HP.out
          rw [e, List.take_length] at this
          exact HBT.out this
        go_wp2
        go_ret
        exact ⟨ret_bool HT.out.symm, HB.out⟩
  · have e : planB l = false := planB_no (fun z => h256 (by omega))
    rw [e]
    have hI : (256 : Int) < (m : Int) := by omega
    clear hm hr e
    go_enter Tryz.func36, Tryz.ntmps36
    go_wp2
    go_ret
    exact ⟨rfl, Below.refl _ _⟩
end Go.Proofs.YteoakhfofnocfaaGreatDoor
