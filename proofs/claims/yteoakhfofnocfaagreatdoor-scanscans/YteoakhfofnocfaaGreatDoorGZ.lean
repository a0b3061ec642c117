/-
  What the document's Right says: what the program's says.
  What New makes: the document's chip.
  New of the document's chip.
  The chip, and the document's: what is alike, and that it stays so.
-/
import Derived.Test.YteoakhfofnocfaaGreatDoorGW
import Derived.Test.YteoakhfofnocfaaGreatDoorGY
import Derived.Deep.RegionLaw
namespace Go.Proofs.YteoakhfofnocfaaGreatDoor
open Go.RowKit
set_option maxRecDepth 10000

theorem pow_all : ∀ n : Fin 513, powD n.val (n.val : Int) = powB (n.val : Int) := by decide +kernel
theorem pow_same {n : Int} (h0 : 0 ≤ n) (h1 : n ≤ 512) : powD n.toNat n = powB n := by
  obtain ⟨k, rfl⟩ : ∃ k : Nat, n = k := ⟨n.toNat, by omega⟩
  have := pow_all ⟨k, by omega⟩
  simpa using this
set_option maxHeartbeats 4000000 in
theorem d_right (b p z r : Int) (w : World) : Calls Tryz.prog 35 #[.agg #[.int .i64 b, .int .i64 p, .int .i64 z, .int .i64 r]] w fun e w' => e = .returned (.bool (rightB b p z r)) ∧ Below w.heap.size w w' := by
  obtain ⟨X, hX⟩ : ∃ X, X = rightB b p z r := ⟨_, rfl⟩
  rw [← hX]
  have HX : Hid (X = rightB b p z r) := hX
  clear hX
  by_cases hb : 16 ≤ b ∧ b ≤ 256
  · by_cases hp : 8 ≤ p ∧ p ≤ 64
    · have kp := fun W => d_pow p (by omega) W
      rw [pow_same (by omega) (by omega)] at kp
      have b1 : ¬ b < 16 := by omega
      have b2 : ¬ 256 < b := by omega
      have p1 : ¬ p < 8 := by omega
      have p2 : ¬ 64 < p := by omega
      by_cases hz : 64 ≤ z ∧ z ≤ 512
      · have kz := fun W => d_pow z (by omega) W
        rw [pow_same (by omega) (by omega)] at kz
        obtain ⟨z1, z2⟩ := hz
        have HX2 : Hid (X = (powB p && (powB z && (decide (1536 ≤ wrap64 (wrap64 (p - 2) * z)) && decide (0 ≤ r ∧ r ≤ wrap64 (b.tdiv 4)))))) := by
          show _ = _
          rw [HX.out]; unfold rightB
          rw [decide_eq_true hb, decide_eq_true hp, decide_eq_true (show 64 ≤ z ∧ z ≤ 512 from ⟨z1, z2⟩)]; simp
        have M1 : Hid True := trivial
        cases hP : powB p
        · rw [hP] at kp
          have HX3 : Hid (X = false) := by show _ = _; rw [HX2.out, hP]; rfl
          clear hb hp hP
          go_enter Tryz.func35, Tryz.ntmps35
          go_wp2_with (go_at_call 81; refine (kp _).mono ?_; rintro e w' ⟨rfl, rfl⟩)
          go_ret
          exact ⟨ret_bool HX3.out.symm, below_new _ _⟩
        · rw [hP] at kp
          cases hZ : powB z
          · rw [hZ] at kz
            have HX3 : Hid (X = false) := by show _ = _; rw [HX2.out, hP, hZ]; rfl
            clear hb hp hP hZ
            go_enter Tryz.func35, Tryz.ntmps35
            go_wp2_with (first
              | (go_at_call 81; clear M1; refine (kp _).mono ?_; rintro e w' ⟨rfl, rfl⟩)
              | (go_at_call 81; refine (kz _).mono ?_; rintro e w' ⟨rfl, rfl⟩))
            go_ret
            exact ⟨ret_bool HX3.out.symm, below_new _ _⟩
          · rw [hZ] at kz
            have HX3 : Hid (X = (decide (1536 ≤ wrap64 (wrap64 (p - 2) * z)) && decide (0 ≤ r ∧ r ≤ wrap64 (b.tdiv 4)))) := by show _ = _; rw [HX2.out, hP, hZ]; rfl
            have hw1 : wrap64 (p - 2) = p - 2 := by unfold wrap64; omega
            have hw2 : wrap64 (b.tdiv 4) = b / 4 := by rw [Int.tdiv_eq_ediv_of_nonneg (by omega)]; unfold wrap64; omega
            have HX3 : Hid (X = (decide (1536 ≤ wrap64 ((p - 2) * z)) && decide (0 ≤ r ∧ r ≤ b / 4))) := by have := HX3.out; rw [hw1, hw2] at this; exact this
            clear hw1 hw2
            by_cases hy : 1536 ≤ wrap64 ((p - 2) * z)
            · by_cases hr0 : 0 ≤ r
              · by_cases hr1 : r ≤ b / 4
                · have HX4 : Hid (X = true) := by show _ = _; rw [HX3.out, decide_eq_true hy, decide_eq_true (show 0 ≤ r ∧ r ≤ b / 4 from ⟨hr0, hr1⟩)]; rfl
                  clear hb hp hP hZ
                  go_enter Tryz.func35, Tryz.ntmps35
                  go_wp2_with (first
                    | (go_at_call 81; clear M1; refine (kp _).mono ?_; rintro e w' ⟨rfl, rfl⟩)
                    | (go_at_call 81; refine (kz _).mono ?_; rintro e w' ⟨rfl, rfl⟩))
                  go_ret
                  exact ⟨ret_bool HX4.out.symm, below_new _ _⟩
                · have HX4 : Hid (X = false) := by show _ = _; rw [HX3.out, decide_eq_false (show ¬ (0 ≤ r ∧ r ≤ b / 4) from fun q => hr1 q.2)]; simp
                  clear hb hp hP hZ
                  go_enter Tryz.func35, Tryz.ntmps35
                  go_wp2_with (first
                    | (go_at_call 81; clear M1; refine (kp _).mono ?_; rintro e w' ⟨rfl, rfl⟩)
                    | (go_at_call 81; refine (kz _).mono ?_; rintro e w' ⟨rfl, rfl⟩))
                  go_ret
                  exact ⟨ret_bool (by rw [HX4.out]; exact decide_eq_false (by omega)), below_new _ _⟩
              · have HX4 : Hid (X = false) := by show _ = _; rw [HX3.out, decide_eq_false (show ¬ (0 ≤ r ∧ r ≤ b / 4) from fun q => hr0 q.1)]; simp
                clear hb hp hP hZ
                go_enter Tryz.func35, Tryz.ntmps35
                go_wp2_with (first
                  | (go_at_call 81; clear M1; refine (kp _).mono ?_; rintro e w' ⟨rfl, rfl⟩)
                  | (go_at_call 81; refine (kz _).mono ?_; rintro e w' ⟨rfl, rfl⟩))
                go_ret
                exact ⟨ret_bool HX4.out.symm, below_new _ _⟩
            · have HX4 : Hid (X = false) := by show _ = _; rw [HX3.out, decide_eq_false hy]; rfl
              clear hb hp hP hZ
              go_enter Tryz.func35, Tryz.ntmps35
              go_wp2_with (first
                | (go_at_call 81; clear M1; refine (kp _).mono ?_; rintro e w' ⟨rfl, rfl⟩)
                | (go_at_call 81; refine (kz _).mono ?_; rintro e w' ⟨rfl, rfl⟩))
              go_ret
              exact ⟨ret_bool HX4.out.symm, below_new _ _⟩
      · have HX2 : Hid (X = false) := by
          show _ = _
          rw [HX.out]; unfold rightB; rw [decide_eq_false hz]; simp
        have hz' : ¬ 64 ≤ z ∨ (64 ≤ z ∧ ¬ z ≤ 512) := by omega
        cases hP : powB p
        · rw [hP] at kp
          clear hb hp hP hz hz'
          go_enter Tryz.func35, Tryz.ntmps35
          go_wp2_with (go_at_call 81; refine (kp _).mono ?_; rintro e w' ⟨rfl, rfl⟩)
          go_ret
          exact ⟨ret_bool HX2.out.symm, below_new _ _⟩
        · rw [hP] at kp
          clear hb hp hP hz
          rcases hz' with q | ⟨q1, q2⟩
          all_goals
            go_enter Tryz.func35, Tryz.ntmps35
            go_wp2_with (go_at_call 81; refine (kp _).mono ?_; rintro e w' ⟨rfl, rfl⟩)
            go_ret
            exact ⟨ret_bool HX2.out.symm, below_new _ _⟩
    · have HX2 : Hid (X = false) := by
        show _ = _
        rw [HX.out]; unfold rightB; rw [decide_eq_false hp]; simp
      have hp' : p < 8 ∨ (¬ p < 8 ∧ 64 < p) := by omega
      have b1 : ¬ b < 16 := by omega
      have b2 : ¬ 256 < b := by omega
      clear hb hp
      rcases hp' with q | ⟨q1, q2⟩
      all_goals
        go_enter Tryz.func35, Tryz.ntmps35
        go_wp2
        go_ret
        exact ⟨ret_bool HX2.out.symm, below_new _ _⟩
  · have HX2 : Hid (X = false) := by
      show _ = _
      rw [HX.out]; unfold rightB; rw [decide_eq_false hb]; simp
    have hb' : b < 16 ∨ (¬ b < 16 ∧ 256 < b) := by omega
    clear hb
    rcases hb' with q | ⟨q1, q2⟩
    all_goals
      go_enter Tryz.func35, Tryz.ntmps35
      go_wp2
      go_ret
      exact ⟨ret_bool HX2.out.symm, below_new _ _⟩
end Go.Proofs.YteoakhfofnocfaaGreatDoor
namespace Go.Proofs.YteoakhfofnocfaaGreatDoor
open Go.RowKit
set_option maxRecDepth 10000

/-- A new block. -/
def freshD (gp r : Nat) : DBk := ⟨r, gp, List.replicate gp zeroP, 0, false, 0⟩
theorem infoDB : (Tryz.prog.info? 87).map (fun i => (i.zero, i.size, i.bytes)) = some (some (.agg #[.slice none 0 0, .int .i64 0, .bool false, .int .i64 0]), 4, 48) := by kernel_rfl
theorem step_append_blk {w : World} {ops : Array Oper} {o : Oper} {a : Act} {K : Act → World → Prop} {Q : Exit → Act → World → Prop} {E : Prop} (hgd : o.guard = none) (s x : Operand)
    (ho : o.op = .call { callee := .builtin .append, args := #[s, x], argTypes := #[82, 82] })
    (base : Nat) (v : Value) (n : Nat) (xs : List Value) (hs : a.eval s = v) (hown : w.ownsRow base 87 4 v n xs)
    (ad : Addr) (news : List Value) (hx : a.eval x = .slice (some ad) 1 1) (hn : news.length = 4) (hc : ∀ j u, news[j]? = some u → w.cell? (ad.add j) = some u) (h1 : ∀ u ∈ news, u.oneCell' = true)
    (h63 : n + 1 ≤ 1000) (hbase : base ≤ w.heap.size)
    (h : ∀ v' w', w'.ownsRow base 87 4 v' (n + 1) (xs ++ news) → w.grownBy w' v.ownBlock → K (a.put o.dst v') w') :
    if Region.wanted o (yielded ops a.tmps) = true then Oper.wp Tryz.prog o a w K Q else E := by
  have hw : Region.wanted o (yielded ops a.tmps) = true := by simp [Region.wanted, hgd]
  rw [if_pos hw]
  obtain ⟨i0, hi, hz0, hz1, hz2⟩ := info_parts infoDB
  obtain ⟨v', w', hrun, r1, r2, _⟩ := run_append_own (P := Tryz.prog) w base 82 o.type 87 i0 _ 4 48 Tryz.underlying82 hi hz0 hz1 hz2 rfl (by omega) v n xs hown ad 1 1 news (by omega) hc h1 (by unfold maxLen; omega) (by omega) hbase
  unfold Oper.wp
  simp [execOp, ho, resolve, invoke, builtin, hs, hx, hrun, Result.andThen]
  exact h v' w' r1 r2
/-- What New has made so far. -/
structure MadeD (w wr : World) (gb gp gz gr P : Nat) (pa : Option Addr) (pl pc : Nat) (rs : List Nat) (a : Option Addr) (cap : Nat) : Prop where
  chip : Row wr P [.int .i64 gb, .int .i64 gp, .int .i64 gz, .int .i64 gr, .slice a rs.length cap, .bool false, .slice pa pl pc, .int .i64 0, .int .i64 0, .int .i64 0] 84
  own : wr.ownsRow w.heap.size 87 4 (.slice a rs.length cap) rs.length ((rs.map (freshD gp)).flatMap dbCells)
  pgs : ∀ r ∈ rs, Row wr r ((List.replicate gp zeroP).flatMap dpCells) 132 ∧ w.heap.size ≤ r
  nd : rs.Nodup
  low : w.heap.size ≤ P
  geo : Row wr w.heap.size [.int .i64 gb, .int .i64 gp, .int .i64 gz, .int .i64 gr] 23
  bel : Below w.heap.size w wr
theorem own_kept {w w' : World} {S : Nat → Prop} {base e size n : Nat} {v : Value} {xs : List Value} (h : w.ownsRow base e size v n xs) (hk : Kept S w w') (hs : ∀ k, v.ownBlock = some k → ¬ S k) : w'.ownsRow base e size v n xs := by
  refine ⟨h.1, ?_⟩
  rcases h.2 with hn' | ⟨g, cap, cur, rfl, hbg, hgg, rest⟩
  · exact .inl hn'
  · refine .inr ⟨g, cap, cur, rfl, hbg, ?_, rest⟩
    rw [hk.block g (Array.getElem?_eq_some_iff.1 hgg).1 (hs g rfl)]
    exact hgg
theorem own_type {w : World} {base e size n k : Nat} {v : Value} {xs : List Value} (h : w.ownsRow base e size v n xs) (hk : v.ownBlock = some k) : Row w k [] e := by
  rcases h.2 with ⟨rfl, _⟩ | ⟨g, cap, cur, rfl, hbg, hgg, rest⟩
  · cases hk
  · cases hk
    exact ⟨cur.toList, by simpa using hgg⟩
theorem kept_grownD {w w' : World} {row : Option Nat} (hg : w.grownBy w' row) : Kept (fun k => row = some k) w w' :=
  ⟨hg.os, hg.tape, hg.output, hg.size, fun k hk hn => hg.block k hk (fun e => hn e.symm)⟩
/-- The cells of a new block's element. -/
def elemD (R gp : Nat) : List Value := [.slice (some ⟨R, 0, none⟩) gp gp, .int .i64 0, .bool false, .int .i64 0]
theorem elemD_fresh (R gp : Nat) : dbCells (freshD gp R) = elemD R gp := by simp [dbCells, freshD, elemD]
/-- A round of New. -/
theorem MadeD.step {w wr w4 : World} {gb gp gz gr P : Nat} {pa : Option Addr} {pl pc : Nat} {rs : List Nat} {a : Option Addr} {cap : Nat} (h : MadeD w wr gb gp gz gr P pa pl pc rs a cap) (RP : Array Value) (hRP : RP.toList = (List.replicate gp zeroP).flatMap dpCells) (v' : Value)
    (hown : w4.ownsRow w.heap.size 87 4 v' (rs.length + 1) ((rs.map (freshD gp)).flatMap dbCells ++ elemD wr.heap.size gp))
    (hgr : ((wr.alloc (.cells RP 132)).alloc (.cells (elemD wr.heap.size gp).toArray 87)).drew.grownBy w4 (Value.ownBlock (.slice a rs.length cap))) :
    ∃ a' cap', v' = .slice a' (rs.length + 1) cap' ∧ MadeD w (w4.setCell ⟨P, 4, none⟩ (.slice a' (rs.length + 1) cap')) gb gp gz gr P pa pl pc (rs ++ [wr.heap.size]) a' cap' ∧ w4.cell? ⟨P, 4, none⟩ = some (.slice a rs.length cap) ∧ w4.frozen? ⟨P, 4, none⟩ = false := by
  obtain ⟨a', cap', rfl⟩ := own_form' hown
  have b0 : Below wr.heap.size wr ((wr.alloc (.cells RP 132)).alloc (.cells (elemD wr.heap.size gp).toArray 87)).drew := (Below.after (below_new _ _) (below_new _ _)).drew
  have ho0 : ((wr.alloc (.cells RP 132)).alloc (.cells (elemD wr.heap.size gp).toArray 87)).drew.ownsRow w.heap.size 87 4 (.slice a rs.length cap) rs.length ((rs.map (freshD gp)).flatMap dbCells) := owns_later h.own b0
  have hk := kept_grownD hgr
  have hsz := h.bel.size
  have keep : ∀ {B : Nat} {cs : List Value} {t : TypeId}, Row ((wr.alloc (.cells RP 132)).alloc (.cells (elemD wr.heap.size gp).toArray 87)).drew B cs t → t ≠ 87 → Row w4 B cs t := fun hr ht => hr.kept hk (fun e => hr.ne (own_type ho0 e) ht rfl)
  have c4 := keep (h.chip.later b0) (by decide)
  have g4 := keep (h.geo.later b0) (by decide)
  have r4 : ∀ r ∈ rs, Row w4 r ((List.replicate gp zeroP).flatMap dpCells) 132 := fun r hr => keep ((h.pgs r hr).1.later b0) (by decide)
  have n4 : Row w4 wr.heap.size ((List.replicate gp zeroP).flatMap dpCells) 132 := by
    refine keep ?_ (by decide)
    have := (Row.new wr RP.toList 132).alloc (.cells (elemD wr.heap.size gp).toArray 87)
    rw [hRP] at this
    have e : RP = ((List.replicate gp zeroP).flatMap dpCells).toArray := by rw [← hRP]
    rw [e]
    exact this.drew
  have hPB : ∀ k, Value.ownBlock (.slice a' (rs.length + 1) cap') = some k → ¬ k = P := fun k hk e => by
    have := own_type hown hk
    exact this.ne c4 (by decide) e
  have hlen : (rs ++ [wr.heap.size]).length = rs.length + 1 := by simp
  refine ⟨a', cap', rfl, ⟨?_, ?_, ?_, ?_, h.low, ?_, ?_⟩, c4.cell (i := 4) rfl, c4.frozen 4⟩
  · rw [hlen]; exact c4.set (i := 4) (.slice a' (rs.length + 1) cap') (by simp)
  · rw [hlen]
    have e : ((rs ++ [wr.heap.size]).map (freshD gp)).flatMap dbCells = (rs.map (freshD gp)).flatMap dbCells ++ elemD wr.heap.size gp := by
      rw [List.map_append, List.flatMap_append]
      simp [elemD_fresh]
    rw [e]
    exact own_kept hown ((Kept.refl (fun k => k = P) w4).setCell (p := ⟨P, 4, none⟩) rfl _) hPB
  · intro r hr
    rcases List.mem_append.1 hr with q | q
    · exact ⟨(r4 r q).other _ _ (fun e => (r4 r q).ne c4 (by decide) e), (h.pgs r q).2⟩
    · rw [List.mem_singleton.1 q]
      exact ⟨n4.other _ _ (fun e => n4.ne c4 (by decide) e), hsz⟩
  · rw [List.nodup_append]
    refine ⟨h.nd, by simp, ?_⟩
    intro x hx y hy
    simp at hy
    have := (h.pgs x hx).1.lt
    omega
  · exact g4.other _ _ (fun e => g4.ne c4 (by decide) e)
  · have hb : Below w.heap.size w w4 := (h.bel.trans (b0.mono hsz)).grown hgr (by have := b0.size; omega) (fun k hk => (h.own.lt k hk).1)
    exact hb.setCell (p := ⟨P, 4, none⟩) h.low _
/-- The new chip. -/
theorem MadeD.lies {w wr : World} {gb gp gz gr P : Nat} {pa : Option Addr} {pl pc : Nat} {rs : List Nat} {a : Option Addr} {cap : Nat} (h : MadeD w wr gb gp gz gr P pa pl pc rs a cap) (e : rs.length = gb) (g1 : 1 ≤ gb) (g2 : gb ≤ 256) (g3 : 1 ≤ gp) (g4 : gp ≤ 64) (g5 : 1 ≤ gz) (g6 : gz ≤ 512)
    (l : List Flt) (hpl : pl = l.length) (hy : pl ≤ 256 ∧ planOk l) (hr : FRow w pa l) :
    ∃ q, DLies w.heap.size wr ⟨P, q, cap, gb, gp, gz, gr, rs.map (freshD gp), false, pa, pl, pc, l, 0, 0, 0⟩ := by
  obtain ⟨g, cap2, e2, hc1, hc2, hg, hrow⟩ := Row.of_owns h.own (by omega)
  simp only [Value.slice.injEq] at e2
  obtain ⟨rfl, _, rfl⟩ := e2
  have hmem : ∀ x ∈ rs.map (freshD gp), ∃ r ∈ rs, x = freshD gp r := fun x hx => by
    obtain ⟨r, hr, rfl⟩ := List.mem_map.1 hx; exact ⟨r, hr, rfl⟩
  have hmr : (rs.map (freshD gp)).map DBk.r = rs := by rw [List.map_map]; exact List.map_id'' (fun _ => rfl) rs
  have hlow : ∀ k, (⟨P, g, cap, gb, gp, gz, gr, rs.map (freshD gp), false, pa, pl, pc, l, 0, 0, 0⟩ : DS).foot k → w.heap.size ≤ k := by
    rintro k (rfl | rfl | hk)
    · exact h.low
    · exact hg
    · have hk' : k ∈ (rs.map (freshD gp)).map DBk.r := hk
      rw [hmr] at hk'
      exact (h.pgs k hk').2
  refine ⟨g, ?_, hrow, ?_, ?_, hlow, ⟨frow_later hr h.bel, fun b o e' hl => ?_⟩, ?_⟩
  · have : dsCells ⟨P, g, cap, gb, gp, gz, gr, rs.map (freshD gp), false, pa, pl, pc, l, 0, 0, 0⟩ = [.int .i64 gb, .int .i64 gp, .int .i64 gz, .int .i64 gr, .slice (some ⟨g, 0, none⟩) rs.length cap, .bool false, .slice pa pl pc, .int .i64 0, .int .i64 0, .int .i64 0] := by simp [dsCells]
    rw [this]
    exact h.chip
  · intro x hx
    obtain ⟨r, hr, rfl⟩ := hmem x hx
    refine ⟨(h.pgs r hr).1, fun p hp => ?_⟩
    rw [List.eq_of_mem_replicate (show p ∈ List.replicate gp zeroP from hp)]
    exact zeroP_ok _
  · show ((rs.map (freshD gp)).map DBk.r).Nodup
    rw [hmr]; exact h.nd
  · obtain ⟨b2, o2, e3, hc⟩ : ∃ b off, pa = some ⟨b, off, none⟩ ∧ ∀ i f, l[i]? = some f → w.cell? ⟨b, off + i * 3, none⟩ = some (.int .i64 f.num) ∧ w.cell? ⟨b, off + i * 3 + 1, none⟩ = some (.int .i64 f.kind) ∧ w.cell? ⟨b, off + i * 3 + 2, none⟩ = some (.int .i64 f.torn) := by
      rcases hr with q | q
      · exact absurd q hl
      · exact q
    rw [e3] at e'
    have e4 : b2 = b ∧ o2 = o := by simpa using e'
    obtain ⟨f, hf⟩ : ∃ f, l[0]? = some f := ⟨_, List.getElem?_eq_getElem (List.length_pos_iff.2 hl)⟩
    have hlt : b2 < w.heap.size := World.block_lt_of_cell? w _ (hc 0 f hf).1
    rw [e4.1] at hlt
    exact ⟨fun q => by have := hlow b q; omega, Nat.lt_of_lt_of_le hlt h.bel.size⟩
  · refine ⟨by show (rs.map _).length = gb; rw [List.length_map]; exact e, ?_, ⟨by show gb ≤ cap; omega, hc2⟩, ⟨g1, g2, g3, g4, g5, g6⟩, ?_, hpl, hy.1, hy.2⟩
    · intro x hx
      obtain ⟨r, hr, rfl⟩ := hmem x hx
      exact ⟨by simp [freshD], Nat.le_refl _, by show gp ≤ maxLen; unfold maxLen; omega, Int.le_refl _, by show (0 : Int) ≤ (gp : Int); omega⟩
    · intro x hx p hp
      obtain ⟨r, hr, rfl⟩ := hmem x hx
      rw [List.eq_of_mem_replicate (show p ∈ List.replicate gp zeroP from hp)]
      exact Nat.zero_le _
end Go.Proofs.YteoakhfofnocfaaGreatDoor
namespace Go.Proofs.YteoakhfofnocfaaGreatDoor
open Go.RowKit
set_option maxRecDepth 10000

theorem d_new_no (b p z r : Int) (a : Option Addr) (m cap : Nat) (l : List Flt) (w : World) (hm : m = l.length) (hm63 : m ≤ 9223372036854775807) (hr : FRow w a l) (h : ¬ (rightB b p z r = true ∧ m ≤ 256 ∧ planOk l)) :
    Calls Tryz.prog 8 #[.agg #[.int .i64 b, .int .i64 p, .int .i64 z, .int .i64 r], .slice a m cap] w fun e w' => e = .returned (.tuple #[.pointer none, .int .i64 22]) ∧ Below w.heap.size w w' := by
  have kR := d_right b p z r
  have kP := fun W (hb : Below w.heap.size w W) => d_plan a m cap l W hm hm63 (frow_later hr hb)
  cases hR : rightB b p z r
  · rw [hR] at kR
    clear hm hr h hR
    go_enter Tryz.func8, Tryz.ntmps8
    go_wp2_with (go_at_call 35; refine (kR _).mono ?_; rintro e w1 ⟨rfl, hb1⟩; have HB1 : Hid (Below _ _ _) := hb1; clear hb1)
    go_ret2
    exact ⟨rfl, Below.after (below_new _ _) HB1.out⟩
  · rw [hR] at kR
    have hP : planB l = false := planB_no (fun q => h ⟨hR, by omega, q.2⟩)
    rw [hP] at kP
    clear hm hr h hR hP
    go_enter Tryz.func8, Tryz.ntmps8
    go_wp2_with (first
      | (go_at_call 35; refine (kR _).mono ?_; rintro e w1 ⟨rfl, hb1⟩; have HB1 : Hid (Below w.heap.size w w1) := Below.after (below_new _ _) hb1; clear hb1)
      | (go_at_call 36; refine (kP _ HB1.out).mono ?_; rintro e w2 ⟨rfl, hb2⟩; have HB2 : Hid (Below _ _ _) := hb2; clear hb2))
    go_ret2
    exact ⟨rfl, Below.after HB1.out HB2.out⟩

theorem elem_news (W : World) (R gp : Nat) : ∀ j u, (elemD R gp)[j]? = some u → (W.alloc (.cells (elemD R gp).toArray 87)).cell? ((⟨W.heap.size, 0, none⟩ : Addr).add j) = some u := by
  intro j u hj
  have e : (⟨W.heap.size, 0, none⟩ : Addr).add j = ⟨W.heap.size, j, none⟩ := by unfold Addr.add; split <;> simp_all
  rw [e]
  exact (Row.new W (elemD R gp) 87).cell hj
theorem elem_one (R gp : Nat) : ∀ u ∈ elemD R gp, u.oneCell' = true := by
  intro u hu
  simp [elemD] at hu
  rcases hu with rfl | rfl | rfl | rfl <;> rfl

def DNewPost (w : World) (gb gp gz gr : Nat) (a : Option Addr) (m cap : Nat) (l : List Flt) (e : Ending) (w' : World) : Prop :=
  ∃ (P q qc : Nat) (rs : List Nat), e = .returned (.tuple #[.pointer (some ⟨P, 0, none⟩), .int .i64 0]) ∧ rs.length = gb ∧ DLies w.heap.size w' ⟨P, q, qc, gb, gp, gz, gr, rs.map (freshD gp), false, a, m, cap, l, 0, 0, 0⟩ ∧ Below w.heap.size w w'

set_option maxHeartbeats 4000000 in
theorem d_new_go (gb gp gz gr : Nat) (a : Option Addr) (m cap : Nat) (l : List Flt) (w : World) (hm : m = l.length) (hr : FRow w a l) (h : m ≤ 256 ∧ planOk l) (hg : rightB gb gp gz gr = true) (g1 : 1 ≤ gb) (g2 : gb ≤ 256) (g3 : 1 ≤ gp) (g4 : gp ≤ 64) (g5 : 1 ≤ gz) (g6 : gz ≤ 512) :
    Calls Tryz.prog 8 #[.agg #[.int .i64 gb, .int .i64 gp, .int .i64 gz, .int .i64 gr], .slice a m cap] w fun e w' => DNewPost w gb gp gz gr a m cap l e w' := by
  have kR := d_right gb gp gz gr
  rw [hg] at kR
  have hm63 : m ≤ 9223372036854775807 := by omega
  have kP := fun W (hb : Below w.heap.size w W) => d_plan a m cap l W hm hm63 (frow_later hr hb)
  rw [planB_yes (by rw [← hm]; exact h)] at kP
  obtain ⟨RP, hRP, hmk⟩ := makeD gp g4
  have HRP : Hid (RP.toList = (List.replicate gp zeroP).flatMap dpCells) := hRP
  have HM : Hid (m = l.length) := hm
  have HR : Hid (FRow w a l) := hr
  have HY : Hid (m ≤ 256 ∧ planOk l) := h
  have hg0 := Row.new w [.int .i64 gb, .int .i64 gp, .int .i64 gz, .int .i64 gr] 23
  have HG0 : Hid (∀ W, Below (w.alloc (.cells #[.int .i64 gb, .int .i64 gp, .int .i64 gz, .int .i64 gr] 23)).heap.size (w.alloc (.cells #[.int .i64 gb, .int .i64 gp, .int .i64 gz, .int .i64 gr] 23)) W → Row W w.heap.size [.int .i64 gb, .int .i64 gp, .int .i64 gz, .int .i64 gr] 23) := fun W hb => hg0.later hb
  clear hm hr h hg hRP hg0
  go_enter Tryz.func8, Tryz.ntmps8
  go_wp2_with (first
    | (go_at_call 35; refine (kR _).mono ?_; rintro e w1 ⟨rfl, hb1⟩; have HB1 : Hid (Below w.heap.size w w1) := Below.after (below_new _ _) hb1; have HG1 : Hid (Below _ _ _) := hb1; clear hb1)
    | (go_at_call 36; refine (kP _ HB1.out).mono ?_; rintro e w2 ⟨rfl, hb2⟩; have HB2 : Hid (Below w.heap.size w w2) := Below.after HB1.out hb2; have hG2 := HG0.out w2 (Below.after HG1.out hb2); have HG2 : Hid (Row _ _ _ _) := hG2; have c0 := hG2.cell (i := 0) rfl; have c1 := hG2.cell (i := 1) rfl; have c2 := hG2.cell (i := 2) rfl; have c3 := hG2.cell (i := 3) rfl; have hGl := hG2.lt; clear hb2 hG2))
  obtain ⟨W0, hW0⟩ : ∃ W0, W0 = w2.alloc (Obj.cells #[.int .i64 gb, .int .i64 gp, .int .i64 gz, .int .i64 gr, .slice none 0 0, .bool false, .slice a m cap, .int .i64 0, .int .i64 0, .int .i64 0] 84) := ⟨_, rfl⟩
  have HM0 : Hid (MadeD w W0 gb gp gz gr w2.heap.size a m cap [] none 0) := by
    rw [hW0]
    exact ⟨Row.new w2 [_, _, _, _, _, _, _, _, _, _] _, World.ownsRow_nil _ _ _ _, fun r hr => by simp at hr, by simp, HB2.out.size, HG2.out.alloc _, Below.after HB2.out (below_new _ _)⟩
  rw [← hW0]
  obtain ⟨P, hP⟩ : ∃ P, P = w2.heap.size := ⟨_, rfl⟩
  rw [← hP] at HM0 ⊢
  clear hW0 hP c0 c1 c2 c3 hGl HG2 HB2 HB1 HG1 HG0 kP kR
  go_loopg [7] gb (fun gm s7 wr => ∃ (rs : List Nat) (ba : Option Addr) (bc : Nat), rs.length ≤ gb ∧ gm = gb - rs.length ∧ s7 = .int .i64 rs.length ∧ Hid (MadeD w wr gb gp gz gr P a m cap rs ba bc))
  case atStart => exact ⟨[], none, 0, Nat.zero_le _, rfl, rfl, HM0⟩
  case round =>
    obtain ⟨rs, ba, bc, hle, hgk, rfl, HI⟩ := hrel
    clear HM0
    obtain ⟨k, hk⟩ : ∃ k, k = rs.length := ⟨_, rfl⟩
    have HK : Hid (k = rs.length) := hk
    have c4 : wr.cell? ⟨P, 4, none⟩ = some (.slice ba k bc) := by rw [hk]; exact HI.out.chip.cell (i := 4) rfl
    have z4 := HI.out.chip.frozen 4
    have hPl := HI.out.chip.lt
    have d0 := HI.out.geo.cell (i := 0) rfl
    have d1 := HI.out.geo.cell (i := 1) rfl
    have hGl := HI.out.geo.lt
    have hsz := HI.out.bel.size
    rw [← hk] at hle hgk ⊢
    by_cases hlt : k < gb
    · have hI : (k : Int) < (gb : Int) := by omega
      have HOW : Hid (((wr.alloc (Obj.cells RP 132)).alloc (Obj.cells #[.slice (some ⟨wr.heap.size, 0, none⟩) gp gp, .int .i64 0, .bool false, .int .i64 0] 87)).drew.ownsRow w.heap.size 87 4 (.slice ba k bc) k ((rs.map (freshD gp)).flatMap dbCells)) := by
        have := owns_later HI.out.own (Below.after (below_new wr (Obj.cells RP 132)) (below_new _ (Obj.cells #[.slice (some ⟨wr.heap.size, 0, none⟩) gp gp, .int .i64 0, .bool false, .int .i64 0] 87))).drew
        rw [← hk] at this
        exact this
      have HNW : Hid (∀ j u, (elemD wr.heap.size gp)[j]? = some u → ((wr.alloc (Obj.cells RP 132)).alloc (Obj.cells #[.slice (some ⟨wr.heap.size, 0, none⟩) gp gp, .int .i64 0, .bool false, .int .i64 0] 87)).drew.cell? ((⟨wr.heap.size + 1, 0, none⟩ : Addr).add j) = some u) := by
        have := elem_news (wr.alloc (Obj.cells RP 132)) wr.heap.size gp
        rw [World.size_alloc] at this
        exact this
      clear hk
      go_wp2
      go_region_law (refine step_append_blk rfl (.tmp 30) (.tmp 35) rfl w.heap.size (.slice ba k bc) k ((rs.map (freshD gp)).flatMap dbCells) (by simp [Act.eval]) HOW.out ⟨wr.heap.size + 1, 0, none⟩ (elemD wr.heap.size gp) (by simp [Act.eval]) rfl HNW.out (elem_one _ _) (by omega) (by show _ ≤ ((wr.alloc _).alloc _).heap.size; simp; omega) ?_; intro v4 w4 hown4 hgrow4; rw [HK.out] at hown4 hgrow4; obtain ⟨a', cap', rfl, hmade', hc4, hf4⟩ := HI.out.step RP HRP.out v4 hown4 hgrow4; rw [← HK.out] at hmade' hc4 ⊢; have HMD : Hid (MadeD _ _ _ _ _ _ _ _ _ _ _ _ _) := hmade'; clear hown4 hgrow4 hmade')
      all_goals go_wp2
      all_goals go_roundg (gb - (k + 1))
      all_goals first
        | (have := HK.out; omega)
        | exact ⟨rs ++ [wr.heap.size], a', cap', by simp [← HK.out]; omega, by simp [← HK.out], by simp [← HK.out], HMD⟩
    · have hI : ¬ (k : Int) < (gb : Int) := by omega
      go_wp2
      go_ret2
      have e : rs.length = gb := by have := HK.out; omega
      obtain ⟨q, hq⟩ := HI.out.lies e g1 g2 g3 g4 g5 g6 l HM.out HY.out HR.out
      exact ⟨P, q, bc, rs, rfl, e, hq, HI.out.bel⟩
end Go.Proofs.YteoakhfofnocfaaGreatDoor
namespace Go.Proofs.YteoakhfofnocfaaGreatDoor
open Go.RowKit
set_option maxRecDepth 10000

def Pg.abs (p : Pg) : APg := if p.st = 0 then ⟨false, []⟩ else if p.st = 1 then ⟨false, p.data⟩ else ⟨true, []⟩
def Bk.abs (b : Bk) : ABk := ⟨b.pgs.map Pg.abs, b.next, b.bad, b.erases⟩
/-- Behind a block's next page all is erased. -/
def Bk.clear (b : Bk) : Prop := ∀ (k : Nat) (g : Pg), b.next ≤ k → b.pgs[k]? = some g → g.st = 0
/-- The chips are alike, and at most k operations were begun. -/
structure Rel (k : Nat) (c : CS) (a : AS) : Prop where
  geo : c.gb = a.gb ∧ c.gp = a.gp ∧ c.gz = a.gz ∧ c.gr = a.gr
  bks : c.bks.map Bk.abs = a.bks
  on : c.on = !a.off
  ops : c.ops = a.ops
  wrong : c.wrong = a.wrong
  low : 0 ≤ a.since ∧ a.since ≤ a.ops ∧ a.ops ≤ (k : Int)
  steps : c.steps = a.ops - a.since
  sorted : c.fs.Pairwise (fun x y => x.num < y.num)
  mem : ∀ f, f ∈ c.fs ↔ f ∈ a.plan ∧ c.steps < f.num
  ok : planOk a.plan
  plen : ∀ b ∈ c.bks, b.pgs.length = c.gp
  short : c.fs.length ≤ 256
  blank : ∀ b ∈ c.bks, b.clear
theorem stepF_len (s : Int) : ∀ l : List Flt, (stepF s l).2.length ≤ l.length
  | [] => Nat.le_refl _
  | g :: l => by rw [stepF_cons]; split <;> simp
theorem Rel.mono {k m : Nat} {c : CS} {a : AS} (h : Rel k c a) (hm : k ≤ m) : Rel m c a := ⟨h.geo, h.bks, h.on, h.ops, h.wrong, ⟨h.low.1, h.low.2.1, by have := h.low.2.2; omega⟩, h.steps, h.sorted, h.mem, h.ok, h.plen, h.short, h.blank⟩
theorem find_none (s : Int) : ∀ l : List Flt, (∀ f ∈ l, f.num ≠ s) → findF s l = ⟨0, 0, 2⟩
  | [], _ => rfl
  | g :: l, h => by unfold findF; rw [if_neg (h g (by simp))]; exact find_none s l (fun f hf => h f (by simp [hf]))
theorem find_mem (s : Int) {f : Flt} (hs : f.num = s) : ∀ l : List Flt, f ∈ l → (l.map Flt.num).Nodup → findF s l = f
  | [], h, _ => by simp at h
  | g :: l, h, nd => by
    unfold findF
    simp only [List.map_cons, List.nodup_cons] at nd
    rcases List.mem_cons.1 h with rfl | h
    · rw [if_pos hs]
    · rw [if_neg (fun e => nd.1 (by rw [e, ← hs]; exact List.mem_map.2 ⟨f, h, rfl⟩))]
      exact find_mem s hs l h nd.2
theorem Rel.nums {k : Nat} {c : CS} {a : AS} (h : Rel k c a) (hk : k < 9223372036854775807) : wrap64 (c.steps + 1) = c.steps + 1 ∧ wrap64 (a.ops + 1) = a.ops + 1 ∧ wrap64 (wrap64 (a.ops + 1) - a.since) = c.steps + 1 := by
  obtain ⟨l1, l2, l3⟩ := h.low
  have hs := h.steps
  have e1 : wrap64 (a.ops + 1) = a.ops + 1 := by unfold wrap64; omega
  rw [e1]
  refine ⟨?_, rfl, ?_⟩ <;> (unfold wrap64; omega)
theorem Rel.fault {k : Nat} {c : CS} {a : AS} (h : Rel k c a) (hk : k < 9223372036854775807) : c.extent = a.flt.ext ∧ c.told = a.flt.says ∧ (c.fault.kind = 1 ↔ a.flt.kind = 1) ∧ (stepF (wrap64 (c.steps + 1)) c.fs).2.Pairwise (fun x y => x.num < y.num) ∧ ∀ f, f ∈ (stepF (wrap64 (c.steps + 1)) c.fs).2 ↔ f ∈ a.plan ∧ c.steps + 1 < f.num := by
  obtain ⟨n1, n2, n3⟩ := h.nums hk
  unfold CS.extent CS.told CS.fault AS.flt
  rw [n3, n1]
  obtain ⟨s, hs⟩ : ∃ s, s = c.steps + 1 := ⟨_, rfl⟩
  rw [← hs]
  have hm : ∀ f, f ∈ c.fs ↔ f ∈ a.plan ∧ s ≤ f.num := fun f => by rw [h.mem f]; constructor <;> (rintro ⟨q, r⟩; exact ⟨q, by omega⟩)
  have hso := h.sorted
  have hok := h.ok
  generalize c.fs = F at hm hso
  cases F with
  | nil =>
    have e : findF s a.plan = ⟨0, 0, 2⟩ := find_none s _ fun f hf e => by have := (hm f).2 ⟨hf, by omega⟩; simp at this
    rw [e]
    refine ⟨rfl, rfl, Iff.rfl, List.Pairwise.nil, fun f => ⟨fun q => by simp [stepF] at q, fun q => ?_⟩⟩
    have := (hm f).2 ⟨q.1, by omega⟩
    simp at this
  | cons g l =>
    have hg := (hm g).1 (by simp)
    have hgl : ∀ f ∈ l, g.num < f.num := fun f hf => (List.pairwise_cons.1 hso).1 f hf
    by_cases e : g.num = s
    · have e1 : findF s a.plan = g := find_mem s e _ hg.1 hok.2
      rw [e1, stepF_cons, if_pos e]
      obtain ⟨_, ho⟩ := hok.1 g hg.1
      refine ⟨?_, rfl, Iff.rfl, (List.pairwise_cons.1 hso).2, fun f => ⟨fun q => ⟨((hm f).1 (by simp [q])).1, by rw [← e]; exact hgl f q⟩, fun q => ?_⟩⟩
      · unfold Flt.ext
        rcases ho with ⟨k1, _⟩ | ⟨k2, _⟩
        · simp only [k1]; rfl
        · simp only [k2]; rfl
      · have := (hm f).2 ⟨q.1, by omega⟩
        rcases List.mem_cons.1 this with rfl | this
        · omega
        · exact this
    · have hno : ∀ f ∈ a.plan, f.num ≠ s := fun f hf e2 => by
        have := (hm f).2 ⟨hf, by omega⟩
        rcases List.mem_cons.1 this with rfl | this
        · exact e e2
        · have := hgl f this
          have := hg.2
          omega
      rw [find_none s _ hno, stepF_cons, if_neg e]
      refine ⟨rfl, rfl, Iff.rfl, hso, fun f => ⟨fun q => ?_, fun q => (hm f).2 ⟨q.1, by omega⟩⟩⟩
      have := (hm f).1 q
      exact ⟨this.1, by have := hno f this.1; omega⟩
theorem Rel.at {k : Nat} {c : CS} {a : AS} (h : Rel k c a) (n : Int) : a.at n = (c.at n).map Bk.abs := by
  unfold AS.at CS.at
  split
  · rfl
  · rw [← h.bks]; simp
/-- An operation begins, and a block is written. -/
theorem Rel.begin {k : Nat} {c : CS} {a : AS} (h : Rel k c a) (hk : k < 9223372036854775807) (i : Nat) (b : Bk) (b' : ABk) (hb : b.abs = b') (hl : b.pgs.length = c.gp) (hcl : b.clear) : Rel (k + 1) { c.operated with bks := c.bks.set i b } { a.begun with bks := a.bks.set i b' } := by
  obtain ⟨n1, n2, n3⟩ := h.nums hk
  obtain ⟨f1, f2, f3, f4, f5⟩ := h.fault hk
  refine ⟨h.geo, ?_, ?_, ?_, h.wrong, ?_, ?_, f4, ?_, h.ok, ?_, Nat.le_trans (stepF_len _ _) h.short, ?_⟩
  · show (c.bks.set i b).map Bk.abs = a.bks.set i b'
    rw [List.map_set, h.bks, hb]
  · show (if c.fault.kind = 1 then false else c.on) = !(if a.flt.kind = 1 then true else a.off)
    by_cases e : c.fault.kind = 1
    · rw [if_pos e, if_pos (f3.1 e)]; rfl
    · rw [if_neg e, if_neg (fun x => e (f3.2 x))]; exact h.on
  · show wrap64 (c.ops + 1) = wrap64 (a.ops + 1)
    rw [h.ops]
  · show 0 ≤ a.since ∧ a.since ≤ wrap64 (a.ops + 1) ∧ wrap64 (a.ops + 1) ≤ ((k + 1 : Nat) : Int)
    have := h.low
    rw [n2]; omega
  · show wrap64 (c.steps + 1) = wrap64 (a.ops + 1) - a.since
    have := h.steps
    rw [n1, n2]; omega
  · intro f
    show f ∈ (stepF (wrap64 (c.steps + 1)) c.fs).2 ↔ f ∈ a.plan ∧ wrap64 (c.steps + 1) < f.num
    rw [n1]
    rw [n1] at f5
    exact f5 f
  · intro x hx
    rcases List.mem_or_eq_of_mem_set hx with hx | rfl
    · exact h.plen x hx
    · exact hl
  · intro x hx
    rcases List.mem_or_eq_of_mem_set hx with hx | rfl
    · exact h.blank x hx
    · exact hcl
theorem programmed_clear {b : Bk} (h : b.clear) (h0 : 0 ≤ b.next) (data : List Nat) (x : Int) : (b.programmed data x).clear := by
  unfold Bk.programmed
  split
  · exact h
  · split
    all_goals
      intro k g hk hg
      have hk' : b.next + 1 ≤ (k : Int) := hk
      rw [List.getElem?_set_ne (by omega)] at hg
      exact h k g (by omega) hg
theorem erased_clear {b : Bk} (h : b.clear) (x : Int) : (b.erased x).clear := by
  unfold Bk.erased
  split
  · intro k g hk hg
    have hk' : (b.pgs.length : Int) ≤ (k : Int) := hk
    have := (List.getElem?_eq_some_iff.1 hg).1
    simp at this
    omega
  · split
    · intro k g hk hg
      have hg' : (List.replicate b.pgs.length (⟨0, []⟩ : Pg))[k]? = some g := hg
      obtain ⟨h1, h2⟩ := List.getElem?_eq_some_iff.1 hg'
      simp at h2
      rw [← h2]
    · exact h
theorem Rel.wronged {k : Nat} {c : CS} {a : AS} (h : Rel k c a) : Rel k { c with wrong := wrap64 (c.wrong + 1) } { a with wrong := wrap64 (a.wrong + 1) } :=
  ⟨h.geo, h.bks, h.on, h.ops, by show wrap64 (c.wrong + 1) = wrap64 (a.wrong + 1); rw [h.wrong], h.low, h.steps, h.sorted, h.mem, h.ok, h.plen, h.short, h.blank⟩
theorem abs_programmed (b : Bk) (data : List Nat) (x : Int) : (b.programmed data x).abs = b.abs.programmed data x ∧ (b.programmed data x).pgs.length = b.pgs.length := by
  unfold Bk.programmed ABk.programmed
  split
  · exact ⟨rfl, rfl⟩
  · split
    · exact ⟨by simp [Bk.abs, Pg.abs, List.map_set], by simp⟩
    · exact ⟨by simp [Bk.abs, Pg.abs, List.map_set], by simp⟩
theorem abs_erased (b : Bk) (gp : Nat) (x : Int) (hx : x = 0 ∨ x = 1 ∨ x = 2) (hg : b.pgs.length = gp) : (b.erased x).abs = b.abs.erased gp x ∧ (b.erased x).pgs.length = gp := by
  unfold Bk.erased ABk.erased
  rcases hx with rfl | rfl | rfl
  · exact ⟨by simp, by simpa using hg⟩
  · exact ⟨by simp [Bk.abs, Pg.abs, hg], by simp [hg]⟩
  · exact ⟨by simp [Bk.abs, Pg.abs, hg], by simp [hg]⟩
theorem Rel.program {k : Nat} {c : CS} {a : AS} (h : Rel k c a) (hgd : Good c) (hk : k < 9223372036854775807) (block page : Int) (data : List Nat) :
    (c.program block page data).1 = (a.program block page data).1 ∧ Rel (k + 1) (c.program block page data).2 (a.program block page data).2 := by
  unfold AS.program
  rw [h.at block]
  have ho := h.on
  rcases (Bool.eq_false_or_eq_true a.off).symm with hoff | hoff
  · rw [hoff] at ho
    replace ho : c.on = true := ho
    rw [if_neg (by rw [hoff]; decide)]
    cases hc : c.at block with
    | none =>
      rw [(prog_err (page := page) (data := data) (.inr ⟨ho, hc, rfl⟩)).1]
      exact ⟨rfl, h.mono (by omega)⟩
    | some b =>
      rw [(prog_at (page := page) (data := data) ho hc).1]
      simp only [Option.map_some]
      have g1 := h.geo.2.1
      have g2 := h.geo.2.2.1
      by_cases e : ¬ (0 ≤ page ∧ page < (c.gp : Int)) ∨ c.gz < data.length
      · rw [if_pos e, if_pos (show ¬ (0 ≤ page ∧ page < (a.gp : Int)) ∨ a.gz < data.length by rw [← g1, ← g2]; exact e)]; exact ⟨rfl, h.mono (by omega)⟩
      · rw [if_neg e, if_neg (show ¬ (¬ (0 ≤ page ∧ page < (a.gp : Int)) ∨ a.gz < data.length) by rw [← g1, ← g2]; exact e)]
        by_cases e2 : b.bad = true ∨ page ≠ b.next
        · rw [if_pos e2, if_pos (show b.abs.bad = true ∨ page ≠ b.abs.next from e2)]
          exact ⟨rfl, h.wronged.mono (Nat.le_succ k)⟩
        · rw [if_neg e2, if_neg (show ¬ (b.abs.bad = true ∨ page ≠ b.abs.next) from e2)]
          obtain ⟨f1, f2, f3, f4, f5⟩ := h.fault hk
          refine ⟨f2, ?_⟩
          obtain ⟨q1, q2⟩ := abs_programmed b data c.extent
          have hbm := List.mem_of_getElem? (at_some hc).1
          refine h.begin hk _ _ _ (by rw [q1, f1]) ?_ (programmed_clear (h.blank b hbm) (hgd.plen b hbm).2.2.2.1 _ _)
          rw [q2]
          exact h.plen b hbm
  · rw [hoff] at ho
    replace ho : c.on = false := ho
    rw [if_pos hoff, (prog_err (block := block) (page := page) (data := data) (.inl ⟨ho, rfl⟩)).1]
    exact ⟨rfl, h.mono (by omega)⟩
theorem Rel.erase {k : Nat} {c : CS} {a : AS} (h : Rel k c a) (hg : Good c) (hk : k < 9223372036854775807) (block : Int) :
    (c.erase block).1 = (a.erase block).1 ∧ Rel (k + 1) (c.erase block).2 (a.erase block).2 := by
  unfold AS.erase
  rw [h.at block]
  have ho := h.on
  rcases (Bool.eq_false_or_eq_true a.off).symm with hoff | hoff
  · rw [hoff] at ho
    replace ho : c.on = true := ho
    rw [if_neg (by rw [hoff]; decide)]
    cases hc : c.at block with
    | none =>
      rw [(prog_err (page := 0) (data := []) (.inr ⟨ho, hc, rfl⟩)).2]
      exact ⟨rfl, h.mono (by omega)⟩
    | some b =>
      rw [(prog_at (page := 0) (data := []) ho hc).2]
      simp only [Option.map_some]
      by_cases e2 : b.bad = true
      · rw [if_pos e2, if_pos (show b.abs.bad = true from e2)]
        exact ⟨rfl, h.wronged.mono (Nat.le_succ k)⟩
      · rw [if_neg e2, if_neg (show ¬ b.abs.bad = true from e2)]
        obtain ⟨f1, f2, f3, f4, f5⟩ := h.fault hk
        refine ⟨f2, ?_⟩
        obtain ⟨q1, q2⟩ := abs_erased ({ b with erases := wrap64 (b.erases + 1) } : Bk) c.gp c.extent hg.extent (h.plen b (List.mem_of_getElem? (at_some hc).1))
        exact h.begin hk _ _ _ (by rw [q1, f1, ← h.geo.2.1]; rfl) q2 (erased_clear (show ({ b with erases := wrap64 (b.erases + 1) } : Bk).clear from h.blank b (List.mem_of_getElem? (at_some hc).1)) _)
  · rw [hoff] at ho
    replace ho : c.on = false := ho
    rw [if_pos hoff, (prog_err (block := block) (page := 0) (data := []) (.inl ⟨ho, rfl⟩)).2]
    exact ⟨rfl, h.mono (by omega)⟩
theorem Rel.mark {k : Nat} {c : CS} {a : AS} (h : Rel k c a) (block : Int) :
    (c.mark block).1 = (a.mark block).1 ∧ Rel k (c.mark block).2 (a.mark block).2 := by
  unfold AS.mark
  rw [h.at block]
  have ho := h.on
  rcases (Bool.eq_false_or_eq_true a.off).symm with hoff | hoff
  · rw [hoff] at ho
    replace ho : c.on = true := ho
    rw [if_neg (by rw [hoff]; decide)]
    cases hc : c.at block with
    | none =>
      have : c.mark block = (22, c) := by
        unfold CS.mark
        rw [if_neg (by rw [ho]; decide)]
        rcases at_none hc with q | ⟨q, r⟩
        · rw [if_pos q]
        · rw [if_neg q, r]
      rw [this]
      exact ⟨rfl, h⟩
    | some b =>
      obtain ⟨q1, q2⟩ := at_some hc
      have : c.mark block = (0, { c with bks := c.bks.set block.toNat { b with bad := true } }) := by
        unfold CS.mark
        rw [if_neg (by rw [ho]; decide), if_neg (by omega), q1]
      rw [this]
      refine ⟨rfl, h.geo, ?_, h.on, h.ops, h.wrong, h.low, h.steps, h.sorted, h.mem, h.ok, ?_, h.short, ?_⟩
      · show (c.bks.set _ _).map Bk.abs = a.bks.set _ _
        rw [List.map_set, h.bks]
        rfl
      · intro x hx
        rcases List.mem_or_eq_of_mem_set hx with hx | rfl
        · exact h.plen x hx
        · exact h.plen b (List.mem_of_getElem? q1)
      · intro x hx
        rcases List.mem_or_eq_of_mem_set hx with hx | rfl
        · exact h.blank x hx
        · exact h.blank b (List.mem_of_getElem? q1)
  · rw [hoff] at ho
    replace ho : c.on = false := ho
    have : c.mark block = (6, c) := by
      unfold CS.mark
      rw [if_pos ho]
    rw [if_pos hoff, this]
    exact ⟨rfl, h⟩
theorem Rel.power {k : Nat} {c : CS} {a : AS} (h : Rel k c a) : Rel k { c with on := true } { a with off := false } :=
  ⟨h.geo, h.bks, rfl, h.ops, h.wrong, h.low, h.steps, h.sorted, h.mem, h.ok, h.plen, h.short, h.blank⟩
theorem Rel.arm {k : Nat} {c : CS} {a : AS} (h : Rel k c a) (l s : List Flt) (hp : s.Perm l) (hs : s.Pairwise (fun x y => x.num < y.num)) (hl : planOk l) (h256 : l.length ≤ 256) : Rel k { c with fs := s, steps := 0 } { a with plan := l, since := a.ops } := by
  have := h.low
  refine ⟨h.geo, h.bks, h.on, h.ops, h.wrong, ⟨by show 0 ≤ a.ops; omega, Int.le_refl _, h.low.2.2⟩, by show (0 : Int) = a.ops - a.ops; omega, hs, fun f => ?_, hl, h.plen, by show s.length ≤ 256; rw [hp.length_eq]; exact h256, h.blank⟩
  show f ∈ s ↔ f ∈ l ∧ 0 < f.num
  rw [hp.mem_iff]
  exact ⟨fun q => ⟨q, by have := (hl.1 f q).1; omega⟩, fun q => q.1⟩
theorem bytes_abs {p : Pg} {q : DPg} (h : p.abs = q.abs) (n : Nat) : p.bytes n = q.bytes n ∧ p.err = q.err := by
  unfold Pg.abs DPg.abs at h
  unfold Pg.bytes DPg.bytes Pg.err DPg.err
  split at h
  · rename_i e
    simp only [APg.mk.injEq] at h
    simp [e, ← h.1, ← h.2]
  · split at h
    · rename_i e1 e2
      simp only [APg.mk.injEq] at h
      simp [e2, ← h.1, ← h.2]
    · rename_i e1 e2
      simp only [APg.mk.injEq] at h
      simp [e1, e2, ← h.1]
theorem Rel.atD {k : Nat} {c : CS} {d : DS} (h : Rel k c d.abs) (n : Int) : (d.at n).map DBk.abs = (c.at n).map Bk.abs := by
  rw [← abs_at]; exact h.at n
theorem Rel.read {k : Nat} {c : CS} {d : DS} (h : Rel k c d.abs) (block page : Int) : c.read block page = d.read block page := by
  have ho : c.on = !d.off := h.on
  have ha := h.atD block
  cases hoff : d.off
  · rw [hoff] at ho
    cases hc : c.at block with
    | none =>
      rw [hc] at ha
      have hd : d.at block = none := by cases q : d.at block with | none => rfl | some _ => rw [q] at ha; simp at ha
      rw [dread_none block page (by rw [hoff]; decide) hd]
      obtain ⟨x, r1, r2, _⟩ := read_err block page (.inr ⟨ho, hc⟩)
      rw [r1]
      rcases r2 with ⟨r, _⟩ | ⟨_, _, rfl⟩
      · rw [ho] at r; simp at r
      · rfl
    | some b =>
      rw [hc] at ha
      obtain ⟨e, hd, hbe⟩ : ∃ e, d.at block = some e ∧ e.abs = b.abs := by cases q : d.at block with | none => rw [q] at ha; simp at ha | some e => rw [q] at ha; simp at ha; exact ⟨e, rfl, ha⟩
      rw [read_at block page ho hc, dread_at block page (by rw [hoff]; decide) hd]
      by_cases e0 : page < 0
      · rw [if_pos e0, if_pos e0]
      · rw [if_neg e0, if_neg e0]
        have hp : e.pgs.map DPg.abs = b.pgs.map Pg.abs := by have := congrArg ABk.pgs hbe; exact this
        have hp2 : (e.pgs[page.toNat]?).map DPg.abs = (b.pgs[page.toNat]?).map Pg.abs := by rw [← List.getElem?_map, ← List.getElem?_map, hp]
        have hz : c.gz = d.gz := h.geo.2.2.1
        cases q1 : b.pgs[page.toNat]? with
        | none => 
          rw [q1] at hp2
          have : e.pgs[page.toNat]? = none := by cases q : e.pgs[page.toNat]? with | none => rfl | some _ => rw [q] at hp2; simp at hp2
          rw [this]
        | some p =>
          rw [q1] at hp2
          obtain ⟨r, q2, hr⟩ : ∃ r, e.pgs[page.toNat]? = some r ∧ r.abs = p.abs := by cases q : e.pgs[page.toNat]? with | none => rw [q] at hp2; simp at hp2 | some r => rw [q] at hp2; simp at hp2; exact ⟨r, rfl, hp2⟩
          rw [q2]
          obtain ⟨s1, s2⟩ := bytes_abs hr.symm c.gz
          show (p.bytes c.gz, p.err) = (r.bytes d.gz, r.err)
          rw [s1, s2, hz]
  · rw [hoff] at ho
    rw [dread_off block page hoff]
    obtain ⟨x, r1, r2, _⟩ := read_err (c := c) block page (.inl ho)
    rw [r1]
    rcases r2 with ⟨_, rfl⟩ | ⟨r, _⟩
    · rfl
    · rw [ho] at r; simp at r
/-- What the chips say of a block. -/
theorem Rel.looks {k : Nat} {c : CS} {d : DS} (h : Rel k c d.abs) (n : Int) :
    (match c.at n with | none => false | some b => b.bad) = (match d.at n with | none => false | some b => b.bad) ∧
    (match c.at n with | none => 0 | some b => b.next) = (match d.at n with | none => 0 | some b => b.next) ∧
    (match c.at n with | none => 0 | some b => b.erases) = (match d.at n with | none => 0 | some b => b.erases) := by
  have ha := h.atD n
  cases hc : c.at n with
  | none =>
    rw [hc] at ha
    have hd : d.at n = none := by cases q : d.at n with | none => rfl | some _ => rw [q] at ha; simp at ha
    rw [hd]
    exact ⟨rfl, rfl, rfl⟩
  | some b =>
    rw [hc] at ha
    obtain ⟨e, hd, hbe⟩ : ∃ e, d.at n = some e ∧ e.abs = b.abs := by cases q : d.at n with | none => rw [q] at ha; simp at ha | some e => rw [q] at ha; simp at ha; exact ⟨e, rfl, ha⟩
    rw [hd]
    exact ⟨(congrArg ABk.bad hbe).symm, (congrArg ABk.next hbe).symm, (congrArg ABk.erases hbe).symm⟩
end Go.Proofs.YteoakhfofnocfaaGreatDoor
