/-
  A master's home: the log of its logical block, the superblock and records in it; what a record put behind it makes of it.
  add, where there is no room.
  A record put behind the others, where there is room; save.
-/
import Derived.Test.YtkfecngkdlajgaaGreatDoorXRE
import Derived.Test.YtkfecngkdlajgaaGreatDoorXRA
import Derived.Test.YtkfecngkdlajgaaGreatDoorQJ
import Derived.Test.YtkfecngkdlajgaaGreatDoorGB
import Derived.Test.YtkfecngkdlajgaaGreatDoorXRG
import Derived.Test.YtkfecngkdlajgaaGreatDoorXRD
import Derived.Test.YtkfecngkdlajgaaGreatDoorQF
namespace Go.Proofs.YtkfecngkdlajgaaGreatDoor
open Go.RowKit Go.Extern.Stop Go.Stop Go.Extern
set_option maxRecDepth 10000

/-- A record that may be. -/
def okR (e : Nat) (T : List Nat) : Prop := e < 18446744073709551616 ∧ (∀ x ∈ T, x < 256) ∧ T.length ≤ 512
theorem recL_isRec {e : Nat} {T : List Nat} (h : okR e T) : isRec (recL e T) = true := by
  have h1 := recL_length e T
  have h2 := h.2.2
  unfold isRec
  rw [h1]
  simp only [recL, List.getD_cons_zero, decide_true, Bool.and_true, Bool.and_eq_true, decide_eq_true_eq]
  omega
theorem recL_bytes {e : Nat} {T : List Nat} (h : okR e T) : ∀ x ∈ recL e T, x < 256 := by
  intro x hx
  unfold recL at hx
  rcases List.mem_cons.1 hx with rfl | hx
  · decide
  · rcases List.mem_append.1 hx with q | q
    · exact Hd.M.putL_lt 8 e x q
    · exact h.2.1 x q
theorem recV_recL {e : Nat} {T : List Nat} (h : okR e T) : recV (recL e T) = .agg #[.int .u64 (e : Nat), .string (bstr T)] := by
  have h8 : (Hd.M.putL 8 e).length = 8 := Hd.M.putL_length 8 e
  have e1 : ((recL e T).drop 1).take 8 = Hd.M.putL 8 e := by
    show (Hd.M.putL 8 e ++ T).take 8 = _
    rw [List.take_append_of_le_length (by omega), List.take_of_length_le (by omega)]
  have e2 : (recL e T).drop 9 = T := by
    show (Hd.M.putL 8 e ++ T).drop 8 = _
    rw [List.drop_append_of_le_length (by omega), List.drop_of_length_le (by omega)]
    rfl
  unfold recV
  rw [e1, e2, Hd.M.getL_putL, Nat.mod_eq_of_lt (Nat.lt_of_lt_of_le h.1 (by decide))]
/-- What stands in a master's logical block: the superblock, k records, the last of them e and T. -/
structure Hom (gz : Nat) (WT d : List Nat) (e : Nat) (T : List Nat) (k : Nat) : Prop where
  ex : ∃ fs recs, Laid gz d fs ∧ fs.map (·.2) = WT :: recs ∧ recs.length = k ∧ recs.getLast? = some (recL e T) ∧ ∀ x ∈ recs, isRec x = true
  md : d.length % gz = 0
  ok : okR e T
theorem rup_self {gz n : Nat} (h : n % gz = 0) : rup gz n = n := by unfold rup; rw [if_pos h]
theorem synD_self {gz : Nat} {d : List Nat} (h : d.length % gz = 0) : synD gz d = d := by
  unfold synD
  rw [rup_self h, Nat.sub_self]
  simp
theorem Hom.add {gz : Nat} (hz : 1 ≤ gz) {WT d : List Nat} {e : Nat} {T : List Nat} {k : Nat} (h : Hom gz WT d e T k) {e' : Nat} {T' : List Nat} (ho : okR e' T') : Hom gz WT (synD gz (appD gz d (recL e' T'))) e' T' (k + 1) := by
  obtain ⟨⟨fs, recs, h1, h2, h3, h4, h5⟩, _, _⟩ := h
  have hl := recL_length e' T'
  have ht := ho.2.2
  refine ⟨⟨_, recs ++ [recL e' T'], Laid.syn (Laid.app (recL e' T') h1 (by omega) (by omega)), ?_, ?_, ?_, ?_⟩, ?_, ho⟩
  · rw [List.map_append, h2]; rfl
  · rw [List.length_append, h3]; rfl
  · rw [List.getLast?_append]; rfl
  · intro x hx
    rcases List.mem_append.1 hx with q | q
    · exact h5 x q
    · rw [List.mem_singleton.1 q]; exact recL_isRec ho
  · rw [synD_length hz]; exact rup_mod hz _
theorem Hom.new {gz : Nat} (hz : 1 ≤ gz) {WT : List Nat} (hw : WT.length = 15) {e : Nat} {T : List Nat} (ho : okR e T) : Hom gz WT (synD gz (appD gz (appD gz [] WT) (recL e T))) e T 1 := by
  have hl := recL_length e T
  have ht := ho.2.2
  refine ⟨⟨_, [recL e T], Laid.syn (Laid.app (recL e T) (Laid.app WT Laid.nil (by omega) (by omega)) (by omega) (by omega)), rfl, rfl, rfl, ?_⟩, ?_, ho⟩
  · intro x hx
    rw [List.mem_singleton.1 hx]; exact recL_isRec ho
  · rw [synD_length hz]; exact rup_mod hz _
/-- What look tells of such a logical block. -/
theorem Hom.look {gz : Nat} (hz : 2 ≤ gz) {WT d : List Nat} {e : Nat} {T : List Nat} {k : Nat} (h : Hom gz WT d e T k) :
    lookF WT ((rdr gz d (d.length + 1) 0).1.map (·.2)) = (.agg #[.int .u64 (e : Nat), .string (bstr T)], k, 0) ∧ (rdr gz d (d.length + 1) 0).2.1 = d.length ∧ (rdr gz d (d.length + 1) 0).2.2 = false := by
  obtain ⟨⟨fs, recs, h1, h2, h3, h4, h5⟩, _, ho⟩ := h
  rw [Laid.whole hz h1 (d.length + 1) (by omega)]
  refine ⟨?_, rfl, rfl⟩
  show lookF WT (fs.map (·.2)) = _
  rw [h2]
  cases recs with
  | nil => cases h4
  | cons r rs =>
    rw [lookF_yes WT r rs h5]
    have e1 : (r :: rs).getLast (by simp) = recL e T := by
      rw [List.getLast?_eq_some_getLast (by simp)] at h4
      exact Option.some.inj h4
    rw [e1, recV_recL ho, h3]
/-- A right manager whose logical block 0 is a master's home. -/
structure Hs (base t : Nat) (w : World) (m : Mg) (c : CS) (P : List (List (List Nat))) (WT d : List Nat) (e : Nat) (T : List Nat) (k : Nat) : Prop where
  ms : Ms base t w m c P
  con : ((cont m.bl P 0).getD []).flatten = d
  hom : Hom c.gz WT d e T k
  leb : ((0 : Nat) : Int) + c.gr + 2 < c.gb
  wt : WT = supN [(c.gb : Int), c.gp, c.gz, c.gr] 4
theorem Hs.later {base t : Nat} {w w' : World} {m : Mg} {c : CS} {P : List (List (List Nat))} {WT d : List Nat} {e : Nat} {T : List Nat} {k : Nat} (h : Hs base t w m c P WT d e T k) (hb : Below w.heap.size w w') : Hs base t w' m c P WT d e T k := { h with ms := h.ms.later hb }
theorem wt_len {c : CS} {WT : List Nat} (h : WT = supN [(c.gb : Int), c.gp, c.gz, c.gr] 4) : WT.length = 15 := by rw [h]; exact supN_length _ 4 (by simp)
theorem Ms.leb_bytes {base t : Nat} {w : World} {m : Mg} {c : CS} {P : List (List (List Nat))} (h : Ms base t w m c P) : 1536 ≤ (c.gp - 2) * c.gz := by
  have hr := h.rt
  have hg := h.rp.rb.geo
  unfold rightB at hr
  simp only [Bool.and_eq_true, decide_eq_true_eq] at hr
  obtain ⟨_, h8, _, h64, _, hm, _⟩ := hr
  have e1 : wrap64 ((c.gp : Int) - 2) = ((c.gp - 2 : Nat) : Int) := by unfold wrap64; omega
  rw [e1] at hm
  have h2 : (c.gp - 2) * c.gz ≤ 62 * 512 := Nat.mul_le_mul (by omega) (by omega)
  rw [← Int.natCast_mul] at hm
  unfold wrap64 at hm
  omega
theorem many_room {gz gp k : Nat} (hz : 1 ≤ gz) (hp : 2 ≤ gp) (h : k ≤ (gp - 2) * gz) : 2 + many gz k ≤ gp := by
  have : many gz k ≤ gp - 2 := by
    unfold many
    have h1 : k + gz - 1 < (gp - 2 + 1) * gz := by rw [Nat.add_mul, Nat.one_mul]; omega
    have := Nat.div_lt_of_lt_mul (m := k + gz - 1) (n := gz) (k := gp - 2 + 1) (by rw [Nat.mul_comm]; exact h1)
    omega
  omega
theorem xlook_home {base t : Nat} {w : World} {m : Mg} {c : CS} {P : List (List (List Nat))} {WT d : List Nat} {e : Nat} {T : List Nat} {k : Nat} (h : Hs base t w m c P WT d e T k) :
    Calls Tryz.prog 28 #[.pointer (some ⟨m.p, 0, none⟩)] w fun r w' => ∃ l, OpenP base t w m c P 0 l w' ∧ l.data = d ∧ l.sp = false ∧ r = .returned (.tuple #[.agg #[.pointer (some ⟨l.p, 0, none⟩), .int .u64 (e : Nat), .string (bstr T), .int .i64 (k : Nat)], .nilIface]) := by
  have hg := h.ms.rp.rb.geo
  have hL := h.hom.look (by omega)
  refine (xlook_any h.ms h.leb).mono ?_
  rintro r w' ⟨l, ho, he⟩
  have hcd : ((cont m.bl P (0 : Nat)).getD []).flatten = d := h.con
  have hfs := ho.fs
  have hdl := ho.dl
  have hsp := ho.sp
  rw [hcd] at hfs hdl hsp
  rw [hL.2.1, List.take_length] at hdl
  rw [hL.2.2] at hsp
  refine ⟨l, ho, hdl, hsp, ?_⟩
  rw [← h.wt, hfs, hL.1] at he
  obtain ⟨a, S, e1, e2⟩ := he.1 rfl
  injection e1 with e1
  injection e1 with e1
  injection e1 with e3 e4
  injection e4 with e4 _
  injection e3 with _ e3
  injection e4 with e4
  rw [e2, e4]
  have : (a : Int) = (e : Int) := e3.symm
  rw [this]
theorem Kept.trans2 {S T : Nat → Prop} {a b c : World} (h : Kept S a b) (k : Kept T b c) (hs : ∀ i, T i → S i ∨ a.heap.size ≤ i) : Kept S a c :=
  ⟨k.os.trans h.os, k.tape.trans h.tape, k.output.trans h.output, Nat.le_trans h.size k.size, fun i hi hn => (k.block i (Nat.lt_of_lt_of_le hi h.size) (fun x => (hs i x).elim hn (fun q => by omega))).trans (h.block i hi hn)⟩
/-- What Sync leaves of a log to which a frame was put. -/
def PutP (base t : Nat) (w : World) (m : Mg) (c : CS) (P : List (List (List Nat))) (l : Lm) (d : List Nat) (w' : World) : Prop :=
  ∃ t' m' c' P', t' ≤ t + 130 ∧ Ms base t' w' m' c' P' ∧ ((cont m'.bl P' l.leb).getD []).flatten = d ∧ Gm c c' ∧ m'.p = m.p ∧ MFoot m' c' = MFoot m c ∧ Kept (fun k => MFoot m c k ∨ LFoot l k) w w' ∧ ∀ o : Int, o ≠ (l.leb : Nat) → cont m'.bl P' o = cont m.bl P o
theorem PutP.later {base t : Nat} {w w1 w2 : World} {m : Mg} {c : CS} {P : List (List (List Nat))} {l : Lm} {d : List Nat} (h : PutP base t w m c P l d w1) (hb : Below w1.heap.size w1 w2) : PutP base t w m c P l d w2 := by
  obtain ⟨t', m', c', P', h1, h2, h3, h4, h5, h6, h7, h8⟩ := h
  exact ⟨t', m', c', P', h1, h2.later hb, h3, h4, h5, h6, h7.later hb, h8⟩
/-- A log's bytes and its pages, where it ends with a page. -/
theorem ML.flat {base t : Nat} {w : World} {m : Mg} {c : CS} {P : List (List (List Nat))} {l : Lm} (h : ML base t w m c P l) (hsp : l.sp = false) (hm : l.data.length % c.gz = 0) : ((cont m.bl P l.leb).getD []).flatten = l.data := by
  have hg := h.ms.rp.rb.geo
  have h1 := h.lo hsp
  have h2 : l.np * c.gz = l.data.length := by
    obtain ⟨q, hq⟩ : ∃ q, l.data.length = c.gz * q := ⟨l.data.length / c.gz, by have := Nat.div_add_mod l.data.length c.gz; omega⟩
    rw [hq, Nat.mul_comm c.gz q] at h1 ⊢
    have a1 : l.np ≤ q := Nat.le_of_mul_le_mul_right h1.1 (by omega)
    have a2 : q < l.np + 1 := Nat.lt_of_mul_lt_mul_right h1.2
    have : l.np = q := by omega
    rw [this]
  rw [h.con hsp, h2, List.take_length]
theorem sync_put {base t : Nat} {w w1 : World} {m : Mg} {c : CS} {P : List (List (List Nat))} {l : Lm} {d1 : List Nat} {fs1 : List Fm} (h : ML base t w m c P l) (hsp : l.sp = false) (ht : t < 1800000000) (ha : AppP base t w m c P l d1 fs1 w1) :
    Calls Tryz.prog 108 #[.pointer (some ⟨l.p, 0, none⟩)] w1 fun e w' => e = .returned (.int .i64 0) ∧ PutP base t w m c P l (synD c.gz d1) w' := by
  obtain ⟨m1, c1, P1, fv, a1, a2, a3, a4, a5, a6, a7⟩ := ha
  obtain ⟨l1, hl1⟩ : ∃ l1, l1 = l.nu d1 fs1 fv (d1.length / c.gz) := ⟨_, rfl⟩
  have hp1 : l1.p = l.p := by rw [hl1]; rfl
  have hd1 : l1.data = d1 := by rw [hl1]; rfl
  have hs1 : l1.sp = false := by rw [hl1]; exact hsp
  have hlb1 : l1.leb = l.leb := by rw [hl1]; rfl
  have hf1 : ∀ k, LFoot l1 k → LFoot l k ∨ w.heap.size ≤ k := by
    rw [hl1]
    rintro k (q | q | q)
    · exact .inl (.inl q)
    · exact .inl (.inr (.inl q))
    · rcases a7 k q with q | q
      · exact .inl (.inr (.inr q))
      · exact .inr q
  rw [← hl1] at a1
  have hg := h.ms.rp.rb.geo
  have hg1 := a1.ms.rp.rb.geo
  have hz : c1.gz = c.gz := a2.gz
  have hsz := a1.size
  rw [hd1] at hsz
  have hnd : d1.length / c.gz ≤ 496 := Nat.le_trans (Nat.div_le_div_right (show d1.length ≤ 31744 by omega)) (by
    have : 31744 / c.gz ≤ 31744 / 64 := Nat.div_le_div_left (by omega) (by omega)
    omega)
  have hnd2 : d1.length / c.gz ≤ 62 := by
    have h5 := a1.np
    have h6 := a1.ms.page_le l1.leb
    have h7 : l1.np = d1.length / c.gz := by rw [hl1]; rfl
    omega
  rw [← hp1]
  by_cases hk : keptN c1.gz l1 = 0
  · refine (sync_none a1 hk).mono ?_
    rintro e w' ⟨rfl, hb⟩
    have hlo := a1.lo hs1
    unfold keptN at hk
    have e1 : d1.length % c.gz = 0 := by
      rw [← hz, ← hd1]
      have : l1.data.length = l1.np * c1.gz := by omega
      rw [this]; exact Nat.mul_mod_left _ _
    refine ⟨rfl, _, m1, c1, P1, ?_, a1.ms.later hb, ?_, a2, a3, a4, a5.later hb, a6⟩
    · omega
    · rw [synD_self e1, ← hlb1, a1.flat hs1 (by rw [hd1, hz]; exact e1), hd1]
  · refine (sync_yes a1 hs1 (by omega) (by omega)).mono ?_
    rintro e w' ⟨rfl, m2, c2, P2, fv2, b1, b2, b3, b4, b5, b6, b7⟩
    rw [hz, hd1] at b1
    have hsl : (synD c.gz d1).length = rup c.gz d1.length := synD_length (by omega) d1
    have hz2 : c2.gz = c.gz := b2.gz.trans hz
    have hnp2 : (synD c.gz d1).length / c.gz ≤ 62 := by
      have h5 := b1.np
      have h6 := b1.ms.page_le (l1.nu (synD c.gz d1) l1.fs fv2 ((synD c.gz d1).length / c.gz)).leb
      have h7 : (l1.nu (synD c.gz d1) l1.fs fv2 ((synD c.gz d1).length / c.gz)).np = (synD c.gz d1).length / c.gz := rfl
      have h8 := b2.gp
      omega
    have b1' := b1
    refine ⟨rfl, _, m2, c2, P2, ?_, b1.ms, ?_, ?_, b3.trans a3, b4.trans a4, ?_, ?_⟩
    · show _ ≤ _
      omega
    · have := b1.flat (show (l1.nu (synD c.gz d1) l1.fs fv2 ((synD c.gz d1).length / c.gz)).sp = false from hs1) (show (synD c.gz d1).length % c2.gz = 0 by rw [hz2, hsl]; exact rup_mod (by omega) _)
      rw [← hlb1]
      exact this
    · exact a2.trans b2
    · refine a5.trans2 b5 ?_
      rintro i (q | q)
      · rw [a4] at q; exact .inl (.inl q)
      · rcases hf1 i q with q | q
        · exact .inl (.inr q)
        · exact .inr q
    · intro o ho
      rw [b6 o (by rw [hlb1]; exact ho), a6 o ho]
end Go.Proofs.YtkfecngkdlajgaaGreatDoor
namespace Go.Proofs.YtkfecngkdlajgaaGreatDoor
open Go.RowKit Go.Extern.Stop Go.Stop Go.Extern
set_option maxRecDepth 10000

set_option maxHeartbeats 2000000 in
theorem add_full {base t : Nat} {w : World} {m : Mg} {c : CS} {P : List (List (List Nat))} {l : Lm} (h : ML base t w m c P l) (a : Nat) (S0 : ByteArray) (k : Nat) (n : Nat) (hn : n < 18446744073709551616) (T : List Nat) (hT : ∀ x ∈ T, x < 256) (hTl : T.length ≤ 512) (hroom : roomI l < ((9 + T.length : Nat) : Int)) :
    Calls Tryz.prog 68 #[.agg #[.pointer (some ⟨l.p, 0, none⟩), .int .u64 (a : Nat), .string S0, .int .i64 (k : Nat)], .agg #[.int .u64 (n : Nat), .string (bstr T)]] w fun e w' => ∃ v, e = .returned v ∧ ErX w' v 28 ∧ Below w.heap.size w w' := by
  have kP := fun X => packed_any n hn T hT (by omega) X
  have hRl := recL_length n T
  have HR := (show Hid ((recL n T).length = 9 + T.length ∧ (∀ x ∈ recL n T, x < 256) ∧ T.length ≤ 512 ∧ roomI l < (((recL n T).length : Nat) : Int)) from ⟨hRl, recL_lt n T hT, hTl, by rw [hRl]; exact hroom⟩)
  obtain ⟨R, hR⟩ : ∃ R, R = recL n T := ⟨_, rfl⟩
  rw [← hR] at kP HR
  obtain ⟨St, hSt⟩ : ∃ S, S = bstr T := ⟨_, rfl⟩
  rw [← hSt] at kP ⊢
  have HM := (show Hid (∀ X, Below w.heap.size w X → ML base t X m c P l) from fun X hb => h.later hb)
  obtain ⟨W, hW⟩ : ∃ W, W = (w.alloc (.cells #[.pointer (some ⟨l.p, 0, none⟩), .int .u64 (a : Nat), .string S0, .int .i64 (k : Nat)] 80)).alloc (.cells #[.int .u64 (n : Nat), .string St] 40) := ⟨_, rfl⟩
  have hb0 : Below w.heap.size w W.drew := by rw [hW]; exact (Below.after (below_new w _) (below_new _ _)).drew
  have hr0 : Row W w.heap.size [.pointer (some ⟨l.p, 0, none⟩), .int .u64 (a : Nat), .string S0, .int .i64 (k : Nat)] 80 := by rw [hW]; exact (Row.new w [_, _, _, _] _).later (below_new _ _)
  have hr1 : Row W (w.heap.size + 1) [.int .u64 (n : Nat), .string St] 40 := by
    rw [hW]
    have := Row.new (w.alloc (.cells #[.pointer (some ⟨l.p, 0, none⟩), .int .u64 (a : Nat), .string S0, .int .i64 (k : Nat)] 80)) [.int .u64 (n : Nat), .string St] 40
    rw [World.size_alloc] at this
    exact this
  have c0 := hr0.cell (i := 0) rfl
  have d0 := hr1.cell (i := 0) rfl
  have d1 := hr1.cell (i := 1) rfl
  have HW := (show Hid (Below w.heap.size w W.drew ∧ Row W w.heap.size [.pointer (some ⟨l.p, 0, none⟩), .int .u64 (a : Nat), .string S0, .int .i64 (k : Nat)] 80) from ⟨hb0, hr0⟩)
  have kP2 := kP W.drew
  clear h hT hTl hn hRl hR hSt hroom hb0 hr0 hr1 kP
  go_enter Tryz.func68, Tryz.ntmps68
  go_wp2_with fail
  (try rw [World.size_alloc])
  rw [← hW]
  clear hW
  go_region_with (first
    | (go_at_call 64; refine kP2.mono ?_; rintro e w6 ⟨v6, rfl, ho6⟩; obtain ⟨a6, p6, rfl, hr6, _, _⟩ := ho6.row; have hs6 := HW.out.2.later (Below.after (Below.refl _ W).drew ho6.2); have s0 := hs6.cell (i := 0) rfl; have HB6 := (show Hid (Below w.heap.size w w6 ∧ BRow w6 a6 R ∧ Row w6 w.heap.size [.pointer (some ⟨l.p, 0, none⟩), .int .u64 (a : Nat), .string S0, .int .i64 (k : Nat)] 80) from ⟨Below.after HW.out.1 ho6.2, hr6, hs6⟩); clear ho6 hr6 hs6)
    | (go_at_call 107; refine (append_full (HM.out w6 HB6.out.1) a6 p6 R HR.out.2.1 HB6.out.2.1 (by have := HR.out.1; omega) (by have := HR.out; omega) HR.out.2.2.2).mono ?_; rintro e w7 ⟨rfl, hb7⟩; have HB7 := (show Hid (Below w.heap.size w w7) from Below.after HB6.out.1 hb7); clear hb7))
  all_goals
    go_wp2_with (go_at_call 56; refine (xfailed_any _ 28 w7).mono ?_; rintro e w8 ⟨v8, rfl, he8, hb8⟩; obtain ⟨t8, u8, rfl⟩ : ∃ t u, v8 = .iface t u := (by rcases he8.nil with ⟨q, _⟩ | ⟨_, q⟩; exact absurd q (by decide); exact q); have HE := (show Hid (ErX w8 (.iface t8 u8) 28 ∧ Below w.heap.size w w8) from ⟨he8, Below.after HB7.out hb8⟩); clear he8 hb8)
    go_ret
    exact ⟨_, rfl, HE.out.1, HE.out.2⟩
end Go.Proofs.YtkfecngkdlajgaaGreatDoor
namespace Go.Proofs.YtkfecngkdlajgaaGreatDoor
open Go.RowKit Go.Extern.Stop Go.Stop Go.Extern
set_option maxRecDepth 10000

theorem AppP.from {base t : Nat} {w w1 w2 : World} {m : Mg} {c : CS} {P : List (List (List Nat))} {l : Lm} {d : List Nat} {fs : List Fm} (h : AppP base t w1 m c P l d fs w2) (hb : Below w.heap.size w w1) : AppP base t w m c P l d fs w2 := by
  obtain ⟨m', c', P', fv, h1, h2, h3, h4, h5, h6, h7⟩ := h
  exact ⟨m', c', P', fv, h1, h2, h3, h4, (Kept.of_below hb).trans h5, h6, fun k q => (h7 k q).imp id (fun q => Nat.le_trans hb.size q)⟩
theorem AppP.kept {base t : Nat} {w w2 : World} {m : Mg} {c : CS} {P : List (List (List Nat))} {l : Lm} {d : List Nat} {fs : List Fm} (h : AppP base t w m c P l d fs w2) : Kept (fun k => MFoot m c k ∨ LFoot l k) w w2 := by
  obtain ⟨m', c', P', fv, h1, h2, h3, h4, h5, h6, h7⟩ := h
  exact h5
theorem ML.low {base t : Nat} {w : World} {m : Mg} {c : CS} {P : List (List (List Nat))} {l : Lm} (h : ML base t w m c P l) : ∀ k, LFoot l k → k < w.heap.size := fun k hk => by
  obtain ⟨cs, t', hr, _⟩ := h.la.typed k hk
  exact hr.lt
set_option maxHeartbeats 4000000 in
theorem add_yes {base t : Nat} {w : World} {m : Mg} {c : CS} {P : List (List (List Nat))} {l : Lm} (h : ML base t w m c P l) (hsp : l.sp = false) (ht : t < 1800000000) (a : Nat) (S0 : ByteArray) (k : Nat) (n : Nat) (T : List Nat) (hok : okR n T) (hroom : l.data.length + (15 + T.length) ≤ l.dcap) :
    Calls Tryz.prog 68 #[.agg #[.pointer (some ⟨l.p, 0, none⟩), .int .u64 (a : Nat), .string S0, .int .i64 (k : Nat)], .agg #[.int .u64 (n : Nat), .string (bstr T)]] w fun e w' => e = .returned .nilIface ∧ PutP base t w m c P l (synD c.gz (appD c.gz l.data (recL n T))) w' := by
  have kP := fun X => packed_any n hok.1 T hok.2.1 (by have := hok.2.2; omega) X
  have hRl := recL_length n T
  have HR := (show Hid ((recL n T).length = 9 + T.length ∧ (∀ x ∈ recL n T, x < 256) ∧ T.length ≤ 512 ∧ l.data.length + (6 + (recL n T).length) ≤ l.dcap) from ⟨hRl, recL_bytes hok, hok.2.2, by rw [hRl]; omega⟩)
  obtain ⟨R, hR⟩ : ∃ R, R = recL n T := ⟨_, rfl⟩
  rw [← hR] at kP HR ⊢
  obtain ⟨St, hSt⟩ : ∃ S, S = bstr T := ⟨_, rfl⟩
  rw [← hSt] at kP ⊢
  have HM := (show Hid (∀ X, Below w.heap.size w X → ML base t X m c P l) from fun X hb => h.later hb)
  have HML := (show Hid (ML base t w m c P l ∧ l.sp = false ∧ t < 1800000000) from ⟨h, hsp, ht⟩)
  have HOff := (show Hid (∀ B, w.heap.size ≤ B → ¬ LFoot l B) from fun B hB q => by have := h.low B q; omega)
  obtain ⟨W, hW⟩ : ∃ W, W = (w.alloc (.cells #[.pointer (some ⟨l.p, 0, none⟩), .int .u64 (a : Nat), .string S0, .int .i64 (k : Nat)] 80)).alloc (.cells #[.int .u64 (n : Nat), .string St] 40) := ⟨_, rfl⟩
  have hb0 : Below w.heap.size w W.drew := by rw [hW]; exact (Below.after (below_new w _) (below_new _ _)).drew
  have hr0 : Row W w.heap.size [.pointer (some ⟨l.p, 0, none⟩), .int .u64 (a : Nat), .string S0, .int .i64 (k : Nat)] 80 := by rw [hW]; exact (Row.new w [_, _, _, _] _).later (below_new _ _)
  have hr1 : Row W (w.heap.size + 1) [.int .u64 (n : Nat), .string St] 40 := by
    rw [hW]
    have := Row.new (w.alloc (.cells #[.pointer (some ⟨l.p, 0, none⟩), .int .u64 (a : Nat), .string S0, .int .i64 (k : Nat)] 80)) [.int .u64 (n : Nat), .string St] 40
    rw [World.size_alloc] at this
    exact this
  have c0 := hr0.cell (i := 0) rfl
  have d0 := hr1.cell (i := 0) rfl
  have d1 := hr1.cell (i := 1) rfl
  have HW := (show Hid (Below w.heap.size w W.drew ∧ Row W w.heap.size [.pointer (some ⟨l.p, 0, none⟩), .int .u64 (a : Nat), .string S0, .int .i64 (k : Nat)] 80) from ⟨hb0, hr0⟩)
  have kP2 := kP W.drew
  clear h hRl hR hSt hroom hb0 hr0 hr1 kP hsp ht hok
  go_enter Tryz.func68, Tryz.ntmps68
  go_wp2_with fail
  (try rw [World.size_alloc])
  rw [← hW]
  clear hW
  go_region_with (first
    | (go_at_call 64; refine kP2.mono ?_; rintro e w6 ⟨v6, rfl, ho6⟩; obtain ⟨a6, p6, rfl, hr6, _, _⟩ := ho6.row; have hs6 := HW.out.2.later (Below.after (Below.refl _ W).drew ho6.2); have s0 := hs6.cell (i := 0) rfl; have HB6 := (show Hid (Below w.heap.size w w6 ∧ BRow w6 a6 R ∧ Row w6 w.heap.size [.pointer (some ⟨l.p, 0, none⟩), .int .u64 (a : Nat), .string S0, .int .i64 (k : Nat)] 80) from ⟨Below.after HW.out.1 ho6.2, hr6, hs6⟩); clear ho6 hr6 hs6)
    | (go_at_call 107; refine (append_yes (HM.out w6 HB6.out.1) HML.out.2.1 (by have := HML.out.2.2; omega) a6 p6 R HR.out.2.1 HB6.out.2.1 (by have := HR.out.1; omega) (by have := HR.out; omega) HR.out.2.2.2).mono ?_; rintro e w7 ⟨rfl, ha7⟩; have hs7 := HB6.out.2.2.kept ha7.kept (fun q => q.elim (fun q => (HM.out w6 HB6.out.1).ms.ml.off' HB6.out.2.2 (by unfold NoMg; decide) q) (fun q => HOff.out _ (Nat.le_refl _) q)); have u0 := hs7.cell (i := 0) rfl; have HA7 := (show Hid (AppP base t w m c P l (appD c.gz l.data R) (l.fs ++ [(l.data.length, R)]) w7) from ha7.from HB6.out.1); clear ha7 hs7))
  all_goals
    go_wp2_with (first
      | (go_at_call 108; refine (sync_put HML.out.1 HML.out.2.1 HML.out.2.2 (HA7.out)).mono ?_; rintro e w8 ⟨rfl, hp8⟩; have HP8 := (show Hid (PutP base t w m c P l (synD c.gz (appD c.gz l.data R)) w8) from hp8); clear hp8)
      | (go_at_call 56; refine (xfailed_any _ 0 w8).mono ?_; rintro e w9 ⟨v9, rfl, he9, hb9⟩; obtain rfl : v9 = .nilIface := (by rcases he9 with ⟨_, q⟩ | ⟨q, _⟩; exact q; exact absurd rfl q); have HP9 := (show Hid (PutP base t w m c P l (synD c.gz (appD c.gz l.data R)) w9) from HP8.out.later hb9); clear he9 hb9))
    go_ret
    exact ⟨rfl, HP9.out⟩

/-- Is there room for a record? What stands there behind it; how many. -/
def fitB (cap : Nat) (d T : List Nat) : Bool := decide (d.length + (15 + T.length) ≤ cap)
def anD (gz : Nat) (WT : List Nat) (e : Nat) (T : List Nat) : List Nat := synD gz (appD gz (appD gz [] WT) (recL e T))
def nxD (gz cap : Nat) (WT d : List Nat) (e : Nat) (T : List Nat) : List Nat := if fitB cap d T = true then synD gz (appD gz d (recL e T)) else anD gz WT e T
def nxK (cap : Nat) (d T : List Nat) (k : Nat) : Nat := if fitB cap d T = true then k + 1 else 1
/-- What a save leaves. -/
def Svd (base t : Nat) (w : World) (m : Mg) (c : CS) (WT d : List Nat) (e : Nat) (T : List Nat) (k : Nat) (w' : World) : Prop :=
  ∃ t' m' c' P', t' ≤ t + 130 ∧ Hs base t' w' m' c' P' WT d e T k ∧ Gm c c' ∧ m'.p = m.p ∧ MFoot m' c' = MFoot m c ∧ Kept (MFoot m c) w w'
theorem Svd.later {base t : Nat} {w w1 w2 : World} {m : Mg} {c : CS} {WT d : List Nat} {e : Nat} {T : List Nat} {k : Nat} (h : Svd base t w m c WT d e T k w1) (hb : Below w1.heap.size w1 w2) : Svd base t w m c WT d e T k w2 := by
  obtain ⟨t', m', c', P', h1, h2, h3, h4, h5, h6⟩ := h
  exact ⟨t', m', c', P', h1, h2.later hb, h3, h4, h5, h6.later hb⟩
theorem Svd.from {base t : Nat} {w w1 w2 : World} {m : Mg} {c : CS} {WT d : List Nat} {e : Nat} {T : List Nat} {k : Nat} (h : Svd base t w1 m c WT d e T k w2) (hb : Kept (MFoot m c) w w1) : Svd base t w m c WT d e T k w2 := by
  obtain ⟨t', m', c', P', h1, h2, h3, h4, h5, h6⟩ := h
  exact ⟨t', m', c', P', h1, h2, h3, h4, h5, hb.trans h6⟩
theorem svd_put {base t : Nat} {w w1 w2 w3 : World} {m : Mg} {c : CS} {P : List (List (List Nat))} {WT d : List Nat} {e : Nat} {T : List Nat} {k : Nat} {l : Lm} (h : Hs base t w m c P WT d e T k) (hb0 : Below w.heap.size w w1) (ho : OpenP base t w1 m c P 0 l w2) {n : Nat} {T' : List Nat} (hok : okR n T') (hp : PutP base t w2 m c P l (synD c.gz (appD c.gz d (recL n T'))) w3) :
    Svd base t w m c WT (synD c.gz (appD c.gz d (recL n T'))) n T' (k + 1) w3 := by
  obtain ⟨t', m', c', P', h1, h2, h3, h4, h5, h6, h7, h8⟩ := hp
  have hg := h.ms.rp.rb.geo
  rw [ho.lb] at h3
  refine ⟨t', m', c', P', h1, ⟨h2, h3, ?_, ?_, ?_⟩, h4, h5, h6, ?_⟩
  · rw [h4.gz]; exact h.hom.add (by omega) hok
  · rw [h4.gr, h4.gb]; exact h.leb
  · rw [h4.gb, h4.gp, h4.gz, h4.gr]; exact h.wt
  · refine Kept.trans2 ((Kept.of_below hb0).trans (kp_mp ho.kp)) h7 ?_
    rintro i (q | q)
    · exact .inl q
    · exact .inr (Nat.le_trans hb0.size (ho.nu i q))
theorem svd_new {base t : Nat} {w w' : World} {m : Mg} {c : CS} {P : List (List (List Nat))} {WT : List Nat} (h : Ms base t w m c P) (hleb : ((0 : Nat) : Int) + c.gr + 2 < c.gb) (hwt : WT = supN [(c.gb : Int), c.gp, c.gz, c.gr] 4) {n : Nat} {T : List Nat} (hok : okR n T)
    (hd : Done base (t + 1) w m c (fun l => if l = 0 then some ((cut c.gz (Hd.frameL WT ++ Hd.frameL (recL n T)) (many c.gz (Hd.frameL WT ++ Hd.frameL (recL n T)).length)).map (fillP c.gz)) else cont m.bl P l) w') :
    Svd base t w m c WT (anD c.gz WT n T) n T 1 w' := by
  obtain ⟨m', c', P', h1, h2, h3, h4, h5, h6⟩ := hd
  have hg := h.rp.rb.geo
  have hl := wt_len hwt
  refine ⟨t + 1, m', c', P', by omega, ⟨h1, ?_, ?_, ?_, ?_⟩, h3, h4, h5, h6⟩
  · rw [show cont m'.bl P' 0 = some ((cut c.gz (Hd.frameL WT ++ Hd.frameL (recL n T)) (many c.gz (Hd.frameL WT ++ Hd.frameL (recL n T)).length)).map (fillP c.gz)) from (h2 0).trans (if_pos rfl)]
    show ((cut c.gz _ _).map (fillP c.gz)).flatten = _
    rw [cut_fill (by omega)]
    unfold anD
    rw [renewed (by omega) WT (recL n T) hl]
    congr 2
    rw [List.length_append, Hd.frameL_length, Hd.frameL_length, hl]
    rw [show 15 + 6 + ((recL n T).length + 6) = 21 + (6 + (recL n T).length) by omega]
  · rw [h3.gz]; exact Hom.new (by omega) hl hok
  · rw [h3.gr, h3.gb]; exact hleb
  · rw [h3.gb, h3.gp, h3.gz, h3.gr]; exact hwt
theorem renew_home {base t : Nat} {w : World} {m : Mg} {c : CS} {P : List (List (List Nat))} {WT : List Nat} (h : Ms base t w m c P) (hleb : ((0 : Nat) : Int) + c.gr + 2 < c.gb) (hwt : WT = supN [(c.gb : Int), c.gp, c.gz, c.gr] 4) (ht : t < 1800000000) {n : Nat} {T : List Nat} (hok : okR n T) :
    Calls Tryz.prog 31 #[.pointer (some ⟨m.p, 0, none⟩), .agg #[.int .u64 (n : Nat), .string (bstr T)]] w fun r w' => r = .returned .nilIface ∧ Svd base t w m c WT (anD c.gz WT n T) n T 1 w' := by
  have hg := h.rp.rb.geo
  have hl := wt_len hwt
  have hb := h.leb_bytes
  have hrl := recL_length n T
  have := hok.2.2
  refine (renew_any h n hok.1 T hok.2.1 hok.2.2 (by omega) hleb (many_room (by omega) (by omega) (by rw [← hwt, List.length_append, Hd.frameL_length, Hd.frameL_length]; omega))).mono ?_
  rintro r w' ⟨rfl, hd⟩
  rw [← hwt] at hd
  exact ⟨rfl, svd_new h hleb hwt hok hd⟩
end Go.Proofs.YtkfecngkdlajgaaGreatDoor
