/-
  The document's Victims.
-/
import Derived.Test.YtmaekpfkkpkgpaaGreatDoorRP
import Derived.Deep.LoopGhost
namespace Go.Proofs.YtmaekpfkkpkgpaaGreatDoor
open Go.RowKit
set_option maxRecDepth 10000

theorem OwnI.wider {b c : Nat} {w : World} {v : Value} {l : List Int} (h : OwnI b w v l) (hc : c ≤ b) : OwnI c w v l := by
  refine ⟨h.1, ?_⟩
  rcases h.2 with e | ⟨g, cap, cur, e1, e2, e3⟩
  · exact .inl e
  · exact .inr ⟨g, cap, cur, e1, by omega, e3⟩
theorem dvict_bad (use : Int) (h : use < 1 ∨ 3 < use) (p : Option Addr) (w : World) :
    Calls Tryz.prog 35 #[.pointer p, .int .i64 use] w fun e w' => e = .returned (.slice none 0 0) ∧ w = w' := by
  by_cases h1 : use < 1
  · clear h
    go_enter Tryz.func35, Tryz.ntmps35
    go_wp2
    go_ret
    exact ⟨rfl, rfl⟩
  · have h3 : 3 < use := by omega
    clear h
    go_enter Tryz.func35, Tryz.ntmps35
    go_wp2
    go_ret
    exact ⟨rfl, rfl⟩
theorem dof_nil (use : Int) (w : World) : Calls Tryz.prog 31 #[.pointer none, .int .i64 use] w fun e w' => e = .returned (.slice none 0 0) ∧ w = w' := by
  go_enter Tryz.func31, Tryz.ntmps31
  go_wp2_with fail
  go_loopg [5, 6] 1 (fun kx s5 s6 wr => s5 = .slice none 0 0 ∧ s6 = .int .i64 0 ∧ w = wr)
  case atStart => exact ⟨rfl, rfl, rfl⟩
  case round =>
    obtain ⟨rfl, rfl, rfl⟩ := hrel
    go_wp2
    go_ret
    exact ⟨rfl, rfl⟩
theorem dvict_nil (use : Int) (h1 : ¬ use < 1) (h3 : ¬ 3 < use) (w : World) :
    Calls Tryz.prog 35 #[.pointer none, .int .i64 use] w fun e w' => e = .returned (.slice none 0 0) ∧ w = w' := by
  have kO := dof_nil use w
  go_enter Tryz.func35, Tryz.ntmps35
  go_wp2_with (go_at_call 31; refine kO.mono ?_; rintro e w1 ⟨rfl, rfl⟩)
  go_loopg [5, 7] 1 (fun kx s5 s7 wr => s5 = .slice none 0 0 ∧ s7 = .int .i64 0 ∧ w = wr)
  case atStart => exact ⟨rfl, rfl, rfl⟩
  case round =>
    obtain ⟨rfl, rfl, rfl⟩ := hrel
    go_wp2
    go_ret
    exact ⟨rfl, rfl⟩
set_option maxHeartbeats 16000000 in
theorem dvict_go {w : World} {p q cap : Nat} {size : Int} {l : List PB} (h : DLies w p q cap size l) (hO : BkOk size l) (use : Int) (hu1 : ¬ use < 1) (hu3 : ¬ 3 < use) :
    Calls Tryz.prog 35 #[.pointer (some ⟨p, 0, none⟩), .int .i64 use] w fun e w' => ∃ v, e = .returned v ∧ OwnI w.heap.size w' v (outV l (thoseF (useB use) 0 l)) ∧ Below w.heap.size w w' := by
  have kO := dof_any h hO.n2 use
  have HM : Hid (∀ X, Below w.heap.size w X → DLies X p q cap size l) := fun X hb => h.later hb
  have HO := hidW hO
  have HLm := hidW (fun z (hz : z ∈ thoseF (useB use) 0 l) => (thoseF_mem (useB use) l 0 z).1 hz)
  have hLl : (thoseF (useB use) 0 l).length ≤ 256 := Nat.le_trans (thoseF_len _ _ _) hO.n2
  have hll := hO.n2
  have hs2 := hO.s2
  obtain ⟨L, hL⟩ : ∃ L, L = thoseF (useB use) 0 l := ⟨_, rfl⟩
  rw [← hL] at kO HLm hLl ⊢
  clear h hO hL
  go_enter Tryz.func35, Tryz.ntmps35
  go_wp2_with (go_at_call 31; refine kO.mono ?_; rintro e w1 ⟨v1, rfl, ho1, hb1⟩; obtain ⟨a1, cc1, rfl, hr1⟩ := ho1.form; have HB1 := hidW hb1; have HR1 := hidW hr1; clear hb1 ho1 hr1)
  have HS := hidW (show Am w1 w1 (.slice none 0 0) (outV l (L.take 0)) from ⟨Below.refl _ _, own_nil _ _⟩)
  go_loopg [5, 7] L.length (fun kx s5 s7 wr => ∃ (i : Nat) (v : Value), i + kx = L.length ∧ v = s5 ∧ s7 = .int .i64 (i : Nat) ∧ Hid (Am w1 wr v (outV l (L.take i))))
  case atStart => exact ⟨0, _, by omega, rfl, rfl, HS⟩
  case round =>
    obtain ⟨i, v, hi, rfl, rfl, HA⟩ := hrel
    by_cases hlt : i < L.length
    · obtain ⟨z, hz⟩ : ∃ z, L[i]? = some z := ⟨_, List.getElem?_eq_getElem hlt⟩
      obtain ⟨j, x, hx, hzj, _⟩ := HLm.out z (List.mem_of_getElem? hz)
      rw [Nat.zero_add] at hzj
      subst hzj
      obtain ⟨b1, o1, rfl, hc1⟩ : ∃ b off, a1 = some ⟨b, off, none⟩ ∧ ∀ (i : Nat) x, L[i]? = some x → w1.cell? ⟨b, off + i, none⟩ = some (.int .i64 x) := by
        rcases HR1.out with e | e
        · rw [e] at hlt; simp at hlt
        · exact e
      have HCz := hidW (fun W (hb : Below w1.heap.size w1 W) => (hb.cell (p := ⟨b1, o1 + i, none⟩) (World.block_lt_of_cell? w1 _ (hc1 i _ hz))).trans (hc1 i _ hz))
      have HN := hidW (show outV l (L.take (i + 1)) = if isV l (j : Int) = true then inV (dk l) (j : Int) (outV l (L.take i)) else outV l (L.take i) by rw [List.take_add_one, hz]; exact outV_snoc _ _ _)
      have HDk := hidW (dk_at hx)
      have HIs := hidW (show isV l (j : Int) = (x.closed && !decide (x.used = x.live)) by unfold isV; rw [Int.toNat_natCast, hx])
      have okx := HO.out.ok _ (List.mem_of_getElem? hx)
      have b0 := okx.l0
      have b2 := okx.lu
      have b3 := okx.us
      have hD := HM.out wr (Below.after HB1.out HA.out.bel)
      obtain ⟨g0, g1, g2, g3⟩ := hD.at hx
      have cL := hD.box.cell (i := 1) rfl
      have cz := HCz.out wr HA.out.bel
      have hj1 : (j : Int) < (l.length : Int) := by have := (List.getElem?_eq_some_iff.1 hx).1; omega
      have hi1 : (i : Int) < (L.length : Int) := by omega
      have hp := hD.box.lt
      have hq := hD.row.lt
      have hcb := World.block_lt_of_cell? wr _ cz
      obtain ⟨xu, xd, xl, xc⟩ := x
      clear hz hx hc1 okx hD hlt
      dsimp only at b0 b2 b3 g0 g1 g2 g3
      obtain ⟨X, hX⟩ : ∃ X, X = (wr.alloc (.cells #[.int .i64 xu, .int .i64 xd, .int .i64 xl, .bool xc] 57)).drew := ⟨_, rfl⟩
      have hbX : Below wr.heap.size wr X := by rw [hX]; exact (below_new _ _).drew
      have hRx : Row X wr.heap.size [.int .i64 xu, .int .i64 xd, .int .i64 xl, .bool xc] 57 := by rw [hX]; exact (Row.new _ _ _).drew
      have HX := hidW (And.intro hbX hRx)
      have HAX := hidW (show Am w1 X v (outV l (L.take i)) from ⟨Below.after HA.out.bel hbX, HA.out.own.later hbX⟩)
      have e0 := hRx.cell (i := 0) rfl
      have e1 := hRx.cell (i := 1) rfl
      have e2 := hRx.cell (i := 2) rfl
      have e3 := hRx.cell (i := 3) rfl
      go_wp2_with fail
      go_region
      rw [← hX]
      clear hX hbX hRx g0 g1 g2 g3 cL cz hp hq hcb
      cases xc with
      | false =>
        have HE := hidW (show outV l (L.take (i + 1)) = outV l (L.take i) by rw [HN.out, HIs.out]; simp)
        go_wp2
        go_roundg (L.length - (i + 1))
        case measure => omega
        case rel => exact ⟨i + 1, v, by omega, rfl, by go_num, by rw [HE.out]; exact HAX⟩
      | true =>
        by_cases hud : xd = xl
        · have HE := hidW (show outV l (L.take (i + 1)) = outV l (L.take i) by rw [HN.out, HIs.out]; simp [hud])
          have e9 : (xd == xl) = true := by simpa using hud
          clear hud
          go_wp2
          go_roundg (L.length - (i + 1))
          case measure => omega
          case rel => exact ⟨i + 1, v, by omega, rfl, by go_num, by rw [HE.out]; exact HAX⟩
        · have e9 : (xd == xl) = false := by simpa using hud
          obtain ⟨B, hB⟩ : ∃ B, B = outV l (L.take i) := ⟨_, rfl⟩
          have HE := hidW (show outV l (L.take (i + 1)) = inV (dk l) (j : Int) B by rw [HN.out, HIs.out, hB]; simp [hud])
          have HBm := hidW (fun y (hy : y ∈ B) => show ∃ (jy : Nat) (y' : PB), l[jy]? = some y' ∧ y = (jy : Int) by
            rw [hB] at hy
            obtain ⟨jy, y', h1, h2, _⟩ := HLm.out y (List.mem_of_mem_take ((outV_mem l _ y).1 hy).1)
            exact ⟨jy, y', h1, by rw [h2, Nat.zero_add]⟩)
          have hBl : B.length ≤ 256 := by
            have := outV_len l (L.take i).length (L.take i) rfl
            rw [← hB, List.length_take] at this
            omega
          rw [← hB] at HAX HA
          obtain ⟨a2, cc2, rfl, hr2⟩ := HAX.out.own.form
          have HR2 := hidW hr2
          clear hud hB hr2 HN HIs
          go_wp2_with fail
          obtain ⟨W0, hW0⟩ : ∃ W0, W0 = wr := ⟨_, rfl⟩
          subst hW0
          go_loopg [9, 10, 11] B.length (fun kx s9 s10 s11 wi => ∃ (k : Nat) (u : Value) (dn : Bool) (N : List Int), k + kx = B.length ∧ u = s9 ∧ s10 = .bool dn ∧ s11 = .int .i64 (k : Nat) ∧ Hid (Am X wi u N ∧ (B.take k).foldl (stV (dk l) (j : Int)) ([], false) = (N, dn)) ∧ N.length ≤ k + 1 ∧ (dn = false → N.length ≤ k))
          case atStart => exact ⟨0, _, false, [], by omega, rfl, rfl, rfl, ⟨⟨Below.refl _ _, own_nil _ _⟩, rfl⟩, by simp, by simp⟩
          case round =>
            obtain ⟨k, u, dn, N, hk, rfl, rfl, rfl, HI, hNl, hNf⟩ := hrel
            have HNf := hidW hNf
            clear hNf
            have hRx := HX.out.2.later HI.out.1.bel
            have f1 := hRx.cell (i := 1) rfl
            have f2 := hRx.cell (i := 2) rfl
            have hbl := hRx.lt
            have cz := HCz.out wr (Below.after HAX.out.bel HI.out.1.bel)
            have hcb := World.block_lt_of_cell? wr _ cz
            by_cases hkl : k < B.length
            · obtain ⟨yz, hyz⟩ : ∃ yz, B[k]? = some yz := ⟨_, List.getElem?_eq_getElem hkl⟩
              obtain ⟨jy, y, hy, rfl⟩ := HBm.out yz (List.mem_of_getElem? hyz)
              obtain ⟨b2', o2, rfl, hc2⟩ : ∃ b off, a2 = some ⟨b, off, none⟩ ∧ ∀ (i : Nat) x, B[i]? = some x → X.cell? ⟨b, off + i, none⟩ = some (.int .i64 x) := by
                rcases HR2.out with e | e
                · rw [e] at hkl; simp at hkl
                · exact e
              have HCy := hidW (fun W (hb : Below X.heap.size X W) => (hb.cell (p := ⟨b2', o2 + k, none⟩) (World.block_lt_of_cell? X _ (hc2 k _ hyz))).trans (hc2 k _ hyz))
              have cy := HCy.out wr HI.out.1.bel
              have hcy := World.block_lt_of_cell? wr _ cy
              have oky := HO.out.ok _ (List.mem_of_getElem? hy)
              have d0 := oky.l0
              have d2 := oky.lu
              have d3 := oky.us
              have hD := HM.out wr (Below.after HB1.out (Below.after HAX.out.bel HI.out.1.bel))
              obtain ⟨g0, g1, g2, g3⟩ := hD.at hy
              have cL := hD.box.cell (i := 1) rfl
              have hp := hD.box.lt
              have hq := hD.row.lt
              have hj2 : (jy : Int) < (l.length : Int) := by have := (List.getElem?_eq_some_iff.1 hy).1; omega
              have hk1 : (k : Int) < (B.length : Int) := by omega
              have HSt := hidW (show (B.take (k + 1)).foldl (stV (dk l) (j : Int)) ([], false) = stV (dk l) (j : Int) (N, dn) (jy : Int) by
                rw [List.take_add_one, hyz]
                simp only [Option.toList]
                rw [List.foldl_append, HI.out.2]
                rfl)
              have HDy := hidW (dk_at hy)
              obtain ⟨yu, yd, yl, yc⟩ := y
              dsimp only at d0 d2 d3 g0 g1 g2 g3
              obtain ⟨Y, hY⟩ : ∃ Y, Y = (wr.alloc (.cells #[.int .i64 yu, .int .i64 yd, .int .i64 yl, .bool yc] 57)).drew := ⟨_, rfl⟩
              have hbY : Below wr.heap.size wr Y := by rw [hY]; exact (below_new _ _).drew
              have hRy : Row Y wr.heap.size [.int .i64 yu, .int .i64 yd, .int .i64 yl, .bool yc] 57 := by rw [hY]; exact (Row.new _ _ _).drew
              have y1 := hRy.cell (i := 1) rfl
              have y2 := hRy.cell (i := 2) rfl
              have hRxY := hRx.later hbY
              have x1 := hRxY.cell (i := 1) rfl
              have x2 := hRxY.cell (i := 2) rfl
              have HAY := hidW (show Am X Y u N from ⟨Below.after HI.out.1.bel hbY, HI.out.1.own.later hbY⟩)
              have cyY := HCy.out Y HAY.out.bel
              have czY := HCz.out Y (Below.after HAX.out.bel HAY.out.bel)
              have HCy2 := hidW HCy.out
              have HNl := hidW hNl
              have HBl := hidW hBl
              have hNl2 : N.length + 2 ≤ 260 := by omega
              have HN2 := hidW hNl2
              clear hyz hy hc2 oky hD hRx hRxY hkl
              go_wp2_with fail
              go_region
              rw [← hY]
              clear hY hbY hRy g0 g1 g2 g3 cL hp hq hcy cy cz f1 f2 hcb hbl
              cases dn with
              | true =>
                have HS2 := hidW (show stV (dk l) (j : Int) (N, true) (jy : Int) = (N ++ [(jy : Int)], true) by unfold stV; rw [if_neg (by simp)])
                go_wp2_with (at_builtin; refine wpList_append_int rfl (.tmp 86) (.tmp 91) rfl X.heap.size u N.length (N.map intV) rfl (OwnI.later HAY.out.own (below_new _ (.cells #[.int .i64 (jy : Int)] 3))) ⟨Y.heap.size, 0, none⟩ 1 (jy : Int) rfl (new_int _ _ _) (by have := HN2.out; unfold maxLen; omega) (by have := HN2.out; omega) (Below.after HAY.out.bel (below_new _ _)).size ?_; intro v5 w5 hown hgrow; have H5 : Hid (OwnI X.heap.size w5 v5 (N ++ [(jy : Int)]) ∧ Below X.heap.size X w5) := ⟨by have := hown; unfold OwnI; rw [List.map_append, List.length_append]; exact this, (Below.after HAY.out.bel (below_new _ _)).grown hgrow (Below.after HAY.out.bel (below_new _ _)).size (fun q hq => OwnI.block HAY.out.own q hq)⟩; clear hown hgrow)
                go_roundg (B.length - (k + 1))
                case measure => omega
                case rel => exact ⟨k + 1, v5, true, N ++ [(jy : Int)], by omega, rfl, rfl, by go_num, ⟨⟨H5.out.2, H5.out.1⟩, by rw [HSt.out, HS2.out]⟩, by have := HNl.out; simp; omega, by simp⟩
              | false =>
                by_cases hd : yd - yl < xd - xl
                · have HS2 := hidW (show stV (dk l) (j : Int) (N, false) (jy : Int) = (N ++ [(j : Int)] ++ [(jy : Int)], true) by unfold stV; rw [if_pos ⟨rfl, by rw [HDk.out, HDy.out]; exact hd⟩])
                  have hNk : N.length ≤ k + 1 := HNl.out
                  go_wp2_with (first
                    | (at_builtin; refine wpList_append_int rfl (.tmp 79) (.tmp 84) rfl X.heap.size u N.length (N.map intV) rfl (OwnI.later HAY.out.own (below_new _ (.cells #[.int .i64 (j : Int)] 3))) ⟨Y.heap.size, 0, none⟩ 1 (j : Int) rfl (new_int _ _ _) (by have := HN2.out; unfold maxLen; omega) (by have := HN2.out; omega) (Below.after HAY.out.bel (below_new _ _)).size ?_; intro v5 w5 hown hgrow; have H5 : Hid (OwnI X.heap.size w5 v5 (N ++ [(j : Int)]) ∧ Below X.heap.size X w5) := ⟨by have := hown; unfold OwnI; rw [List.map_append, List.length_append]; exact this, (Below.after HAY.out.bel (below_new _ _)).grown hgrow (Below.after HAY.out.bel (below_new _ _)).size (fun q hq => OwnI.block HAY.out.own q hq)⟩; clear hown hgrow; have cy5 := HCy.out w5 H5.out.2; have hcy5 := World.block_lt_of_cell? w5 _ cy5)
                    | (at_builtin; refine wpList_append_int rfl (.tmp 86) (.tmp 91) rfl X.heap.size v5 (N ++ [(j : Int)]).length ((N ++ [(j : Int)]).map intV) rfl (OwnI.later H5.out.1 (below_new _ (.cells #[.int .i64 (jy : Int)] 3))) ⟨w5.heap.size, 0, none⟩ 1 (jy : Int) rfl (new_int _ _ _) (by have := (show (N ++ [(j : Int)]).length + 1 ≤ 260 by have := HN2.out; simp; omega); unfold maxLen; omega) (by have := (show (N ++ [(j : Int)]).length + 1 ≤ 260 by have := HN2.out; simp; omega); omega) (Below.after H5.out.2 (below_new _ _)).size ?_; intro v6 w6 hown hgrow; have H6 : Hid (OwnI X.heap.size w6 v6 ((N ++ [(j : Int)]) ++ [(jy : Int)]) ∧ Below X.heap.size X w6) := ⟨by have := hown; unfold OwnI; rw [List.map_append, List.length_append]; exact this, (Below.after H5.out.2 (below_new _ _)).grown hgrow (Below.after H5.out.2 (below_new _ _)).size (fun q hq => OwnI.block H5.out.1 q hq)⟩; clear hown hgrow))
                  go_roundg (B.length - (k + 1))
                  case measure => omega
                  case rel => exact ⟨k + 1, v6, true, N ++ [(j : Int)] ++ [(jy : Int)], by omega, rfl, rfl, by go_num, ⟨⟨H6.out.2, H6.out.1⟩, by rw [HSt.out, HS2.out]⟩, by have := HNf.out (by first | trivial | rfl); simp; omega, by simp⟩
                · have HS2 := hidW (show stV (dk l) (j : Int) (N, false) (jy : Int) = (N ++ [(jy : Int)], false) by unfold stV; rw [if_neg (by rw [HDk.out, HDy.out]; rintro ⟨_, e⟩; exact hd e)])
                  go_wp2_with (at_builtin; refine wpList_append_int rfl (.tmp 86) (.tmp 91) rfl X.heap.size u N.length (N.map intV) rfl (OwnI.later HAY.out.own (below_new _ (.cells #[.int .i64 (jy : Int)] 3))) ⟨Y.heap.size, 0, none⟩ 1 (jy : Int) rfl (new_int _ _ _) (by have := HN2.out; unfold maxLen; omega) (by have := HN2.out; omega) (Below.after HAY.out.bel (below_new _ _)).size ?_; intro v5 w5 hown hgrow; have H5 : Hid (OwnI X.heap.size w5 v5 (N ++ [(jy : Int)]) ∧ Below X.heap.size X w5) := ⟨by have := hown; unfold OwnI; rw [List.map_append, List.length_append]; exact this, (Below.after HAY.out.bel (below_new _ _)).grown hgrow (Below.after HAY.out.bel (below_new _ _)).size (fun q hq => OwnI.block HAY.out.own q hq)⟩; clear hown hgrow)
                  go_roundg (B.length - (k + 1))
                  case measure => omega
                  case rel => exact ⟨k + 1, v5, false, N ++ [(jy : Int)], by omega, rfl, rfl, by go_num, ⟨⟨H5.out.2, H5.out.1⟩, by rw [HSt.out, HS2.out]⟩, by have := HNl.out; simp; omega, fun _ => by have := HNf.out (by first | trivial | rfl); simp; omega⟩
            · have hk1 : ¬ (k : Int) < (B.length : Int) := by omega
              have HF := hidW (show B.foldl (stV (dk l) (j : Int)) ([], false) = (N, dn) by have := HI.out.2; rwa [List.take_of_length_le (by omega)] at this)
              have hi2 : (i : Int) < (L.length : Int) := hi1
              have HN2 := hidW (show N.length + 2 ≤ 260 by omega)
              clear hkl hk f1 f2 hbl hRx
              cases dn with
              | true =>
                have HV := hidW (show inV (dk l) (j : Int) B = N by unfold inV; rw [HF.out]; rfl)
                go_wp2
                go_roundg (L.length - (i + 1))
                case measure => omega
                case rel => exact ⟨i + 1, u, by omega, rfl, by go_num, ⟨Below.after HAX.out.bel HI.out.1.bel, by rw [HE.out, HV.out]; exact HI.out.1.own.wider HAX.out.bel.size⟩⟩
              | false =>
                have HV := hidW (show inV (dk l) (j : Int) B = N ++ [(j : Int)] by unfold inV; rw [HF.out]; rfl)
                go_wp2_with (at_builtin; refine wpList_append_int rfl (.tmp 95) (.tmp 100) rfl X.heap.size u N.length (N.map intV) rfl (OwnI.later HI.out.1.own (below_new _ (.cells #[.int .i64 (j : Int)] 3))) ⟨wr.heap.size, 0, none⟩ 1 (j : Int) rfl (new_int _ _ _) (by have := HN2.out; unfold maxLen; omega) (by have := HN2.out; omega) (Below.after HI.out.1.bel (below_new _ _)).size ?_; intro v7 w7 hown hgrow; have H7 : Hid (OwnI X.heap.size w7 v7 (N ++ [(j : Int)]) ∧ Below X.heap.size X w7) := ⟨by have := hown; unfold OwnI; rw [List.map_append, List.length_append]; exact this, (Below.after HI.out.1.bel (below_new _ _)).grown hgrow (Below.after HI.out.1.bel (below_new _ _)).size (fun q hq => OwnI.block HI.out.1.own q hq)⟩; clear hown hgrow)
                go_roundg (L.length - (i + 1))
                case measure => omega
                case rel => exact ⟨i + 1, v7, by omega, rfl, by go_num, ⟨Below.after HAX.out.bel H7.out.2, by rw [HE.out, HV.out]; exact H7.out.1.wider HAX.out.bel.size⟩⟩
    · have hkk : i = L.length := by omega
      rw [hkk, List.take_length] at HA
      have n1 : ¬ (i : Int) < (L.length : Int) := by omega
      obtain ⟨a, cc, rfl⟩ := owns_form HA.out.own
      clear hkk hlt hi
      go_wp2
      go_ret
      exact ⟨_, rfl, HA.out.own.wider HB1.out.size, Below.after HB1.out HA.out.bel⟩
end Go.Proofs.YtmaekpfkkpkgpaaGreatDoor
