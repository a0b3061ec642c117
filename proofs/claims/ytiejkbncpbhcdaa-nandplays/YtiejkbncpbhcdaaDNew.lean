/-
  What New makes: the document's chip.
-/
import Derived.Test.YtiejkbncpbhcdaaDArm
import Derived.Test.YtiejkbncpbhcdaaDRight
import Derived.Deep.RegionLaw
namespace Go.Proofs.Ytiejkbncpbhcdaa
open Go.RowKit

/-- A new block. -/
def freshD (gp r : Nat) : DBk := ⟨r, gp, List.replicate gp zeroP, 0, false, 0⟩
theorem infoDB : (Try.prog.info? 64).map (fun i => (i.zero, i.size, i.bytes)) = some (some (.agg #[.slice none 0 0, .int .i64 0, .bool false, .int .i64 0]), 4, 48) := by kernel_rfl
theorem step_append_blk {w : World} {ops : Array Oper} {o : Oper} {a : Act} {K : Act → World → Prop} {Q : Exit → Act → World → Prop} {E : Prop} (hgd : o.guard = none) (s x : Operand)
    (ho : o.op = .call { callee := .builtin .append, args := #[s, x], argTypes := #[59, 59] })
    (base : Nat) (v : Value) (n : Nat) (xs : List Value) (hs : a.eval s = v) (hown : w.ownsRow base 64 4 v n xs)
    (ad : Addr) (news : List Value) (hx : a.eval x = .slice (some ad) 1 1) (hn : news.length = 4) (hc : ∀ j u, news[j]? = some u → w.cell? (ad.add j) = some u) (h1 : ∀ u ∈ news, u.oneCell' = true)
    (h63 : n + 1 ≤ 1000) (hbase : base ≤ w.heap.size)
    (h : ∀ v' w', w'.ownsRow base 64 4 v' (n + 1) (xs ++ news) → w.grownBy w' v.ownBlock → K (a.put o.dst v') w') :
    if Region.wanted o (yielded ops a.tmps) = true then Oper.wp Try.prog o a w K Q else E := by
  have hw : Region.wanted o (yielded ops a.tmps) = true := by simp [Region.wanted, hgd]
  rw [if_pos hw]
  obtain ⟨i0, hi, hz0, hz1, hz2⟩ := info_parts infoDB
  obtain ⟨v', w', hrun, r1, r2, _⟩ := run_append_own (P := Try.prog) w base 59 o.type 64 i0 _ 4 48 Try.underlying59 hi hz0 hz1 hz2 rfl (by omega) v n xs hown ad 1 1 news (by omega) hc h1 (by unfold maxLen; omega) (by omega) hbase
  unfold Oper.wp
  simp [execOp, ho, resolve, invoke, builtin, hs, hx, hrun, Result.andThen]
  exact h v' w' r1 r2
/-- What New has made so far. -/
structure MadeD (w wr : World) (gb gp gz gr P : Nat) (pa : Option Addr) (pl pc : Nat) (rs : List Nat) (a : Option Addr) (cap : Nat) : Prop where
  chip : Row wr P [.int .i64 gb, .int .i64 gp, .int .i64 gz, .int .i64 gr, .slice a rs.length cap, .bool false, .slice pa pl pc, .int .i64 0, .int .i64 0, .int .i64 0] 61
  own : wr.ownsRow w.heap.size 64 4 (.slice a rs.length cap) rs.length ((rs.map (freshD gp)).flatMap dbCells)
  pgs : ∀ r ∈ rs, Row wr r ((List.replicate gp zeroP).flatMap dpCells) 102 ∧ w.heap.size ≤ r
  nd : rs.Nodup
  low : w.heap.size ≤ P
  geo : Row wr w.heap.size [.int .i64 gb, .int .i64 gp, .int .i64 gz, .int .i64 gr] 23
  bel : Below w.heap.size w wr
theorem own_kept {w w' : World} {S : Nat → Prop} {base e size n : Nat} {v : Value} {xs : List Value} (h : w.ownsRow base e size v n xs) (hk : Kept S w w') (hs : ∀ k, v.ownBlock = some k → ¬ S k) : w'.ownsRow base e size v n xs := by
  refine ⟨h.1, ?_⟩
  rcases h.2 with hn' | ⟨g, cap, cur, rfl, hbg, hgg, rest⟩
  · exact .inl hn'
  · refine .inr ⟨g, cap, cur, rfl, hbg, ?_, rest⟩
    rw [hk.block g (Array.getElem?_eq_some_iff.1 hgg).1 (hs g rfl)]
    exact hgg
theorem own_type {w : World} {base e size n k : Nat} {v : Value} {xs : List Value} (h : w.ownsRow base e size v n xs) (hk : v.ownBlock = some k) : Row w k [] e := by
  rcases h.2 with ⟨rfl, _⟩ | ⟨g, cap, cur, rfl, hbg, hgg, rest⟩
  · cases hk
  · cases hk
    exact ⟨cur.toList, by simpa using hgg⟩
theorem kept_grown {w w' : World} {row : Option Nat} (hg : w.grownBy w' row) : Kept (fun k => row = some k) w w' :=
  ⟨hg.os, hg.tape, hg.output, hg.size, fun k hk hn => hg.block k hk (fun e => hn e.symm)⟩
/-- The cells of a new block's element. -/
def elemD (R gp : Nat) : List Value := [.slice (some ⟨R, 0, none⟩) gp gp, .int .i64 0, .bool false, .int .i64 0]
theorem elemD_fresh (R gp : Nat) : dbCells (freshD gp R) = elemD R gp := by simp [dbCells, freshD, elemD]
/-- A round of New. -/
theorem MadeD.step {w wr w4 : World} {gb gp gz gr P : Nat} {pa : Option Addr} {pl pc : Nat} {rs : List Nat} {a : Option Addr} {cap : Nat} (h : MadeD w wr gb gp gz gr P pa pl pc rs a cap) (RP : Array Value) (hRP : RP.toList = (List.replicate gp zeroP).flatMap dpCells) (v' : Value)
    (hown : w4.ownsRow w.heap.size 64 4 v' (rs.length + 1) ((rs.map (freshD gp)).flatMap dbCells ++ elemD wr.heap.size gp))
    (hgr : ((wr.alloc (.cells RP 102)).alloc (.cells (elemD wr.heap.size gp).toArray 64)).drew.grownBy w4 (Value.ownBlock (.slice a rs.length cap))) :
    ∃ a' cap', v' = .slice a' (rs.length + 1) cap' ∧ MadeD w (w4.setCell ⟨P, 4, none⟩ (.slice a' (rs.length + 1) cap')) gb gp gz gr P pa pl pc (rs ++ [wr.heap.size]) a' cap' ∧ w4.cell? ⟨P, 4, none⟩ = some (.slice a rs.length cap) ∧ w4.frozen? ⟨P, 4, none⟩ = false := by
  obtain ⟨a', cap', rfl⟩ := own_form' hown
  have b0 : Below wr.heap.size wr ((wr.alloc (.cells RP 102)).alloc (.cells (elemD wr.heap.size gp).toArray 64)).drew := (Below.after (below_new _ _) (below_new _ _)).drew
  have ho0 : ((wr.alloc (.cells RP 102)).alloc (.cells (elemD wr.heap.size gp).toArray 64)).drew.ownsRow w.heap.size 64 4 (.slice a rs.length cap) rs.length ((rs.map (freshD gp)).flatMap dbCells) := owns_later h.own b0
  have hk := kept_grown hgr
  have hsz := h.bel.size
  have keep : ∀ {B : Nat} {cs : List Value} {t : TypeId}, Row ((wr.alloc (.cells RP 102)).alloc (.cells (elemD wr.heap.size gp).toArray 64)).drew B cs t → t ≠ 64 → Row w4 B cs t := fun hr ht => hr.kept hk (fun e => hr.ne (own_type ho0 e) ht rfl)
  have c4 := keep (h.chip.later b0) (by decide)
  have g4 := keep (h.geo.later b0) (by decide)
  have r4 : ∀ r ∈ rs, Row w4 r ((List.replicate gp zeroP).flatMap dpCells) 102 := fun r hr => keep ((h.pgs r hr).1.later b0) (by decide)
  have n4 : Row w4 wr.heap.size ((List.replicate gp zeroP).flatMap dpCells) 102 := by
    refine keep ?_ (by decide)
    have := (Row.new wr RP.toList 102).alloc (.cells (elemD wr.heap.size gp).toArray 64)
    rw [hRP] at this
    have e : RP = ((List.replicate gp zeroP).flatMap dpCells).toArray := by rw [← hRP]
    rw [e]
    exact this.drew
  have hPB : ∀ k, Value.ownBlock (.slice a' (rs.length + 1) cap') = some k → ¬ k = P := fun k hk e => by
    have := own_type hown hk
    exact this.ne c4 (by decide) e
  have hlen : (rs ++ [wr.heap.size]).length = rs.length + 1 := by simp
  refine ⟨a', cap', rfl, ⟨?_, ?_, ?_, ?_, h.low, ?_, ?_⟩, c4.cell (i := 4) rfl, c4.frozen 4⟩
  · rw [hlen]; exact c4.set (i := 4) (.slice a' (rs.length + 1) cap') (by simp)
  · rw [hlen]
    have e : ((rs ++ [wr.heap.size]).map (freshD gp)).flatMap dbCells = (rs.map (freshD gp)).flatMap dbCells ++ elemD wr.heap.size gp := by
      rw [List.map_append, List.flatMap_append]
      simp [elemD_fresh]
    rw [e]
    exact own_kept hown ((Kept.refl (fun k => k = P) w4).setCell (p := ⟨P, 4, none⟩) rfl _) hPB
  · intro r hr
    rcases List.mem_append.1 hr with q | q
    · exact ⟨(r4 r q).other _ _ (fun e => (r4 r q).ne c4 (by decide) e), (h.pgs r q).2⟩
    · rw [List.mem_singleton.1 q]
      exact ⟨n4.other _ _ (fun e => n4.ne c4 (by decide) e), hsz⟩
  · rw [List.nodup_append]
    refine ⟨h.nd, by simp, ?_⟩
    intro x hx y hy
    simp at hy
    have := (h.pgs x hx).1.lt
    omega
  · exact g4.other _ _ (fun e => g4.ne c4 (by decide) e)
  · have hb : Below w.heap.size w w4 := (h.bel.trans (b0.mono hsz)).grown hgr (by have := b0.size; omega) (fun k hk => (h.own.lt k hk).1)
    exact hb.setCell (p := ⟨P, 4, none⟩) h.low _
/-- The new chip. -/
theorem MadeD.lies {w wr : World} {gb gp gz gr P : Nat} {pa : Option Addr} {pl pc : Nat} {rs : List Nat} {a : Option Addr} {cap : Nat} (h : MadeD w wr gb gp gz gr P pa pl pc rs a cap) (e : rs.length = gb) (g1 : 1 ≤ gb) (g2 : gb ≤ 256) (g3 : 1 ≤ gp) (g4 : gp ≤ 64) (g5 : 1 ≤ gz) (g6 : gz ≤ 512)
    (l : List Flt) (hpl : pl = l.length) (hy : pl ≤ 256 ∧ planOk l) (hr : FRow w pa l) :
    ∃ q, DLies w.heap.size wr ⟨P, q, cap, gb, gp, gz, gr, rs.map (freshD gp), false, pa, pl, pc, l, 0, 0, 0⟩ := by
  obtain ⟨g, cap2, e2, hc1, hc2, hg, hrow⟩ := Row.of_owns h.own (by omega)
  simp only [Value.slice.injEq] at e2
  obtain ⟨rfl, _, rfl⟩ := e2
  have hmem : ∀ x ∈ rs.map (freshD gp), ∃ r ∈ rs, x = freshD gp r := fun x hx => by
    obtain ⟨r, hr, rfl⟩ := List.mem_map.1 hx; exact ⟨r, hr, rfl⟩
  have hmr : (rs.map (freshD gp)).map DBk.r = rs := by rw [List.map_map]; exact List.map_id'' (fun _ => rfl) rs
  have hlow : ∀ k, (⟨P, g, cap, gb, gp, gz, gr, rs.map (freshD gp), false, pa, pl, pc, l, 0, 0, 0⟩ : DS).foot k → w.heap.size ≤ k := by
    rintro k (rfl | rfl | hk)
    · exact h.low
    · exact hg
    · have hk' : k ∈ (rs.map (freshD gp)).map DBk.r := hk
      rw [hmr] at hk'
      exact (h.pgs k hk').2
  refine ⟨g, ?_, hrow, ?_, ?_, hlow, ⟨frow_later hr h.bel, fun b o e' hl => ?_⟩, ?_⟩
  · have : dsCells ⟨P, g, cap, gb, gp, gz, gr, rs.map (freshD gp), false, pa, pl, pc, l, 0, 0, 0⟩ = [.int .i64 gb, .int .i64 gp, .int .i64 gz, .int .i64 gr, .slice (some ⟨g, 0, none⟩) rs.length cap, .bool false, .slice pa pl pc, .int .i64 0, .int .i64 0, .int .i64 0] := by simp [dsCells]
    rw [this]
    exact h.chip
  · intro x hx
    obtain ⟨r, hr, rfl⟩ := hmem x hx
    refine ⟨(h.pgs r hr).1, fun p hp => ?_⟩
    rw [List.eq_of_mem_replicate (show p ∈ List.replicate gp zeroP from hp)]
    exact zeroP_ok _
  · show ((rs.map (freshD gp)).map DBk.r).Nodup
    rw [hmr]; exact h.nd
  · obtain ⟨b2, o2, e3, hc⟩ : ∃ b off, pa = some ⟨b, off, none⟩ ∧ ∀ i f, l[i]? = some f → w.cell? ⟨b, off + i * 3, none⟩ = some (.int .i64 f.num) ∧ w.cell? ⟨b, off + i * 3 + 1, none⟩ = some (.int .i64 f.kind) ∧ w.cell? ⟨b, off + i * 3 + 2, none⟩ = some (.int .i64 f.torn) := by
      rcases hr with q | q
      · exact absurd q hl
      · exact q
    rw [e3] at e'
    have e4 : b2 = b ∧ o2 = o := by simpa using e'
    obtain ⟨f, hf⟩ : ∃ f, l[0]? = some f := ⟨_, List.getElem?_eq_getElem (List.length_pos_iff.2 hl)⟩
    have hlt : b2 < w.heap.size := World.block_lt_of_cell? w _ (hc 0 f hf).1
    rw [e4.1] at hlt
    exact ⟨fun q => by have := hlow b q; omega, Nat.lt_of_lt_of_le hlt h.bel.size⟩
  · refine ⟨by show (rs.map _).length = gb; rw [List.length_map]; exact e, ?_, ⟨by show gb ≤ cap; omega, hc2⟩, ⟨g1, g2, g3, g4, g5, g6⟩, ?_, hpl, hy.1, hy.2⟩
    · intro x hx
      obtain ⟨r, hr, rfl⟩ := hmem x hx
      exact ⟨by simp [freshD], Nat.le_refl _, by show gp ≤ maxLen; unfold maxLen; omega, Int.le_refl _, by show (0 : Int) ≤ (gp : Int); omega⟩
    · intro x hx p hp
      obtain ⟨r, hr, rfl⟩ := hmem x hx
      rw [List.eq_of_mem_replicate (show p ∈ List.replicate gp zeroP from hp)]
      exact Nat.zero_le _
end Go.Proofs.Ytiejkbncpbhcdaa
