/-
  The document's chip in memory.
-/
import Derived.Test.YtiejkbncpbhcdaaCOnce
import Derived.Test.YtiejkbncpbhcdaaCArm
import Derived.Laws.AppendOwnNone
namespace Go.Proofs.Ytiejkbncpbhcdaa
open Go.RowKit

/-- A page of the document's chip. -/
structure DPg where
  done : Bool
  spoilt : Bool
  da : Option Addr
  dl : Nat
  dc : Nat
  data : List Nat
/-- A block of the document's chip. -/
structure DBk where
  r : Nat
  cap : Nat
  pgs : List DPg
  next : Int
  bad : Bool
  erases : Int
/-- The document's chip. -/
structure DS where
  p : Nat
  q : Nat
  qcap : Nat
  gb : Nat
  gp : Nat
  gz : Nat
  gr : Nat
  bks : List DBk
  off : Bool
  pa : Option Addr
  pl : Nat
  pc : Nat
  plan : List Flt
  since : Int
  ops : Int
  wrong : Int
def dpCells (p : DPg) : List Value := [.bool p.done, .bool p.spoilt, .slice p.da p.dl p.dc]
def dbCells (b : DBk) : List Value := [.slice (some ⟨b.r, 0, none⟩) b.pgs.length b.cap, .int .i64 b.next, .bool b.bad, .int .i64 b.erases]
def dsCells (d : DS) : List Value :=
  [.int .i64 d.gb, .int .i64 d.gp, .int .i64 d.gz, .int .i64 d.gr, .slice (some ⟨d.q, 0, none⟩) d.bks.length d.qcap, .bool d.off, .slice d.pa d.pl d.pc, .int .i64 d.since, .int .i64 d.ops, .int .i64 d.wrong]
theorem dp_len (p : DPg) : (dpCells p).length = 3 := rfl
theorem db_len (b : DBk) : (dbCells b).length = 4 := rfl
def DS.foot (d : DS) (k : Nat) : Prop := k = d.p ∨ k = d.q ∨ k ∈ d.bks.map DBk.r
/-- The page's bytes can be read, and lie apart from what is written. -/
structure DOk (w : World) (p : DPg) : Prop where
  len : p.dl = p.data.length
  lt : ∀ x ∈ p.data, x < 256
  row : BRow w p.da p.data
  nil : p.da = none → p.dl = 0 ∧ p.dc = 0
  apart : p.data = [] ∨ ∀ b o, p.da = some ⟨b, o, none⟩ → ∃ cs, Row w b cs 5
/-- What holds of the document's chip, wherever it lies. -/
structure DGood (d : DS) : Prop where
  len : d.bks.length = d.gb
  plen : ∀ b ∈ d.bks, b.pgs.length = d.gp ∧ d.gp ≤ b.cap ∧ b.cap ≤ maxLen ∧ 0 ≤ b.next ∧ b.next ≤ d.gp
  qc : d.gb ≤ d.qcap ∧ d.qcap ≤ maxLen
  gs : 1 ≤ d.gb ∧ d.gb ≤ 256 ∧ 1 ≤ d.gp ∧ d.gp ≤ 64 ∧ 1 ≤ d.gz ∧ d.gz ≤ 512
  dat : ∀ b ∈ d.bks, ∀ p ∈ b.pgs, p.data.length ≤ d.gz
  pln : d.pl = d.plan.length ∧ d.pl ≤ 256 ∧ planOk d.plan
/-- The document's chip lies in memory, all of it from base on. -/
structure DLies (base : Nat) (w : World) (d : DS) : Prop where
  chip : Row w d.p (dsCells d) 61
  bks : Row w d.q (d.bks.flatMap dbCells) 64
  pgs : ∀ b ∈ d.bks, Row w b.r (b.pgs.flatMap dpCells) 102 ∧ ∀ p ∈ b.pgs, DOk w p
  nd : (d.bks.map DBk.r).Nodup
  low : ∀ k, d.foot k → base ≤ k
  plan : FRow w d.pa d.plan ∧ ∀ b o, d.pa = some ⟨b, o, none⟩ → d.plan ≠ [] → ¬ d.foot b ∧ b < w.heap.size
  good : DGood d
theorem DOk.kept {S : Nat → Prop} {w w' : World} {p : DPg} (h : DOk w p) (hk : Kept S w w') (hs : ∀ b cs, Row w b cs 5 → ¬ S b) : DOk w' p := by
  refine ⟨h.len, h.lt, ?_, h.nil, ?_⟩
  · rcases h.row with e | ⟨b, off, e, hc⟩
    · exact .inl e
    · rcases h.apart with q | q
      · exact .inl q
      · obtain ⟨cs, hr⟩ := q b off e
        refine .inr ⟨b, off, e, fun i hi => ?_⟩
        rw [World.cell?_of_block (w := w) (hk.block b hr.lt (hs b cs hr))]
        exact hc i hi
  · rcases h.apart with q | q
    · exact .inl q
    · refine .inr fun b o e => ?_
      obtain ⟨cs, hr⟩ := q b o e
      exact ⟨cs, hr.kept hk (hs b cs hr)⟩
theorem frow_kept {S : Nat → Prop} {w w' : World} {a : Option Addr} {l : List Flt} (h : FRow w a l) (hk : Kept S w w') (hs : ∀ b o, a = some ⟨b, o, none⟩ → l ≠ [] → ¬ S b) : FRow w' a l := by
  rcases h with e | ⟨b, off, e, hc⟩
  · exact .inl e
  · by_cases hl : l = []
    · exact .inl hl
    · refine .inr ⟨b, off, e, fun i f hf => ?_⟩
      obtain ⟨q0, q1, q2⟩ := hc i f hf
      have key : ∀ j, w'.cell? ⟨b, j, none⟩ = w.cell? ⟨b, j, none⟩ := fun j => World.cell?_of_block (w := w) (hk.block b (World.block_lt_of_cell? w _ q0) (hs b off e hl))
      rw [key, key, key]
      exact ⟨q0, q1, q2⟩
theorem DLies.kept {S : Nat → Prop} {base : Nat} {w w' : World} {d : DS} (h : DLies base w d) (hk : Kept S w w') (hs : ∀ k, d.foot k → ¬ S k) (hu : ∀ b cs, Row w b cs 5 → ¬ S b) (hp : ∀ b o, d.pa = some ⟨b, o, none⟩ → d.plan ≠ [] → ¬ S b) : DLies base w' d :=
  ⟨h.chip.kept hk (hs _ (.inl rfl)), h.bks.kept hk (hs _ (.inr (.inl rfl))), fun b hb => ⟨(h.pgs b hb).1.kept hk (hs _ (.inr (.inr (List.mem_map.2 ⟨b, hb, rfl⟩)))), fun p hp => ((h.pgs b hb).2 p hp).kept hk hu⟩, h.nd, h.low,
    ⟨frow_kept h.plan.1 hk hp, fun b o e hl => ⟨(h.plan.2 b o e hl).1, Nat.lt_of_lt_of_le (h.plan.2 b o e hl).2 hk.size⟩⟩, h.good⟩
theorem DLies.later {base : Nat} {w w' : World} {d : DS} (h : DLies base w d) (hb : Below w.heap.size w w') : DLies base w' d :=
  h.kept (S := fun _ => False) (.of_below hb) (fun _ _ x => x) (fun _ _ _ x => x) (fun _ _ _ _ x => x)
theorem DLies.foot_lt {base : Nat} {w : World} {d : DS} (h : DLies base w d) {k : Nat} (hk : d.foot k) : k < w.heap.size := by
  rcases hk with rfl | rfl | hk
  · exact h.chip.lt
  · exact h.bks.lt
  · obtain ⟨b, hb, rfl⟩ := List.mem_map.1 hk; exact (h.pgs b hb).1.lt
/-- A block's own cells. -/
structure DAt (w : World) (q o : Nat) (b : DBk) : Prop where
  list : w.cell? ⟨q, o, none⟩ = some (.slice (some ⟨b.r, 0, none⟩) b.pgs.length b.cap)
  next : w.cell? ⟨q, o + 1, none⟩ = some (.int .i64 b.next)
  bad : w.cell? ⟨q, o + 2, none⟩ = some (.bool b.bad)
  erases : w.cell? ⟨q, o + 3, none⟩ = some (.int .i64 b.erases)
theorem DAt.of {W : World} {q i : Nat} {l : List DBk} {b : DBk} {t : TypeId} (h : Row W q (l.flatMap dbCells) t) (hi : l[i]? = some b) : DAt W q (i * 4) b :=
  ⟨h.cell (flat_get dbCells 4 db_len 0 (by decide) l i b hi), h.cell (flat_get dbCells 4 db_len 1 (by decide) l i b hi), h.cell (flat_get dbCells 4 db_len 2 (by decide) l i b hi), h.cell (flat_get dbCells 4 db_len 3 (by decide) l i b hi)⟩
def DS.at (d : DS) (block : Int) : Option DBk := if block < 0 then none else d.bks[block.toNat]?
theorem dat_some {d : DS} {n : Int} {b : DBk} (hb : d.at n = some b) : d.bks[n.toNat]? = some b ∧ 0 ≤ n := by
  unfold DS.at at hb
  split at hb
  · cases hb
  · exact ⟨hb, by omega⟩
theorem dat_none {d : DS} {n : Int} (h : d.at n = none) : n < 0 ∨ (¬ n < 0 ∧ d.bks[n.toNat]? = none) := by
  unfold DS.at at h
  split at h
  · left; assumption
  · right; exact ⟨by assumption, h⟩
def DS.asked (d : DS) (block : Int) : Int := if d.off = true then 6 else match d.at block with | none => 22 | some _ => 0

theorem d_asked {base : Nat} {w : World} {d : DS} (h : DLies base w d) (n : Int) :
    Calls Try.prog 63 #[.pointer (some ⟨d.p, 0, none⟩), .int .i64 n] w fun e w' => e = .returned (.int .i64 (d.asked n)) ∧ w = w' := by
  have c4 : w.cell? ⟨d.p, 4, none⟩ = some (.slice (some ⟨d.q, 0, none⟩) d.bks.length d.qcap) := h.chip.cell (by rfl)
  have c5 : w.cell? ⟨d.p, 5, none⟩ = some (.bool d.off) := h.chip.cell (by rfl)
  unfold DS.asked
  cases ho : d.off with
  | true =>
    rw [ho] at c5
    rw [if_pos rfl]
    clear ho h
    go_enter Try.func63, Try.ntmps63
    go_wp2
    go_ret
    exact ⟨rfl, rfl⟩
  | false =>
    rw [ho] at c5
    rw [if_neg (by decide)]
    by_cases h0 : n < 0
    · have e : d.at n = none := by unfold DS.at; rw [if_pos h0]
      rw [e]
      clear ho h e
      go_enter Try.func63, Try.ntmps63
      go_wp2
      go_ret
      exact ⟨rfl, rfl⟩
    · by_cases h1 : n < (d.bks.length : Int)
      · obtain ⟨b, hb⟩ : ∃ b, d.at n = some b := by
          unfold DS.at; rw [if_neg h0]; exact ⟨_, List.getElem?_eq_getElem (by omega)⟩
        rw [hb]
        have h2 : ¬ (d.bks.length : Int) ≤ n := by omega
        clear ho h hb h1
        go_enter Try.func63, Try.ntmps63
        go_wp2
        go_ret
        exact ⟨rfl, rfl⟩
      · have e : d.at n = none := by unfold DS.at; rw [if_neg h0]; exact List.getElem?_eq_none (by omega)
        rw [e]
        have h2 : (d.bks.length : Int) ≤ n := by omega
        clear ho h e h1
        go_enter Try.func63, Try.ntmps63
        go_wp2
        go_ret
        exact ⟨rfl, rfl⟩
theorem d_on {base : Nat} {w : World} {d : DS} (h : DLies base w d) :
    Calls Try.prog 47 #[.pointer (some ⟨d.p, 0, none⟩)] w fun e w' => e = .returned (.bool (!d.off)) ∧ w = w' := by
  have c5 : w.cell? ⟨d.p, 5, none⟩ = some (.bool d.off) := h.chip.cell (by rfl)
  go_enter Try.func47, Try.ntmps47
  go_wp2
  go_ret
  exact ⟨rfl, rfl⟩
theorem d_ops {base : Nat} {w : World} {d : DS} (h : DLies base w d) :
    Calls Try.prog 48 #[.pointer (some ⟨d.p, 0, none⟩)] w fun e w' => e = .returned (.int .i64 d.ops) ∧ w = w' := by
  have c5 : w.cell? ⟨d.p, 8, none⟩ = some (.int .i64 d.ops) := h.chip.cell (by rfl)
  go_enter Try.func48, Try.ntmps48
  go_wp2
  go_ret
  exact ⟨rfl, rfl⟩
theorem d_wrong {base : Nat} {w : World} {d : DS} (h : DLies base w d) :
    Calls Try.prog 49 #[.pointer (some ⟨d.p, 0, none⟩)] w fun e w' => e = .returned (.int .i64 d.wrong) ∧ w = w' := by
  have c5 : w.cell? ⟨d.p, 9, none⟩ = some (.int .i64 d.wrong) := h.chip.cell (by rfl)
  go_enter Try.func49, Try.ntmps49
  go_wp2
  go_ret
  exact ⟨rfl, rfl⟩
theorem d_geometry {base : Nat} {w : World} {d : DS} (h : DLies base w d) :
    Calls Try.prog 51 #[.pointer (some ⟨d.p, 0, none⟩)] w fun e w' => e = .returned (.agg #[.int .i64 d.gb, .int .i64 d.gp, .int .i64 d.gz, .int .i64 d.gr]) ∧ Below w.heap.size w w' := by
  have c0 : w.cell? ⟨d.p, 0, none⟩ = some (.int .i64 d.gb) := h.chip.cell (by rfl)
  have c1 : w.cell? ⟨d.p, 1, none⟩ = some (.int .i64 d.gp) := h.chip.cell (by rfl)
  have c2 : w.cell? ⟨d.p, 2, none⟩ = some (.int .i64 d.gz) := h.chip.cell (by rfl)
  have c3 : w.cell? ⟨d.p, 3, none⟩ = some (.int .i64 d.gr) := h.chip.cell (by rfl)
  have hp := h.chip.lt
  clear h
  go_enter Try.func51, Try.ntmps51
  go_wp2
  refine bodyPost_ret (v := .agg #[.int .i64 d.gb, .int .i64 d.gp, .int .i64 d.gz, .int .i64 d.gr]) ?_ rfl ⟨rfl, ?_⟩
  · simp [results, Try.f51, go_sem]
  · exact below_new w _
end Go.Proofs.Ytiejkbncpbhcdaa
