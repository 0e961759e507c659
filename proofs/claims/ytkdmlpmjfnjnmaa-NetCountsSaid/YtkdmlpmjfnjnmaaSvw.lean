import Derived.Test.YtkdmlpmjfnjnmaaSvv
/-! the same, by recursors written out: what runs and what is stated are then one and the same to the kernel. -/
namespace Go.Proofs.Ytkdmlpmjfnjnmaa.Sv
open Go Go.RowKit
set_option linter.unusedVariables false
set_option linter.unusedSimpArgs false
noncomputable section
variable {P : Program}
abbrev OpsF := List AV → AH → (List AV → AH → Bool) → Bool
def opStep (P : Program) (call : CallF) (ops : Array Oper) (o : Oper) (rec : OpsF) : OpsF := fun tmps H K => match wantedA ops tmps o with
  | none => false
  | some false => put tmps o.dst (.tuple []) fun tmps => rec tmps H K
  | some true => match kind P o with
    | 0 => evR P H tmps o fun q => done H q fun a H => sides a fun a => put tmps o.dst a fun tmps => rec tmps H K
    | _ => evW P call H tmps o fun a H => put tmps o.dst a fun tmps => rec tmps H K
def evOpsR (P : Program) (call : CallF) (ops : Array Oper) (l : List Oper) : OpsF := @List.rec Oper (fun _ => OpsF) (fun tmps H K => K tmps H) (fun o _ rec => opStep P call ops o rec) l
theorem evOpsR_eq (call : CallF) (ops : Array Oper) : ∀ l, evOpsR P call ops l = evOps P call ops l
  | [] => by funext tmps H K; rw [evOps]; rfl
  | o :: r => by
    have e : evOpsR P call ops (o :: r) = opStep P call ops o (evOpsR P call ops r) := rfl
    rw [e, evOpsR_eq call ops r]
    funext tmps H K
    rw [evOps]
    rfl
def againR (P : Program) (H : AH) (anc : Nat) (l : List Rec) : Bool → Bool := @List.rec Rec (fun _ => Bool → Bool) (fun K => K) (fun q _ rec K => fNat q.i fun i => cond (bit anc i) (rec K) (evR P H q.tmps q.o fun x => x.beqK q.res (rec K))) l
theorem againR_eq (H : AH) (anc : Nat) : ∀ l, againR P H anc l = again P H anc l
  | [] => by funext K; rw [again]; rfl
  | q :: r => by
    funext K
    rw [again, ← againR_eq H anc r]
    show (fNat q.i fun i => cond (bit anc i) (againR P H anc r K) (evR P H q.tmps q.o fun x => x.beqK q.res (againR P H anc r K))) = _
    rw [fNat_eq]
def againIfR (c : Bool) (P : Program) (H : AH) (anc : Nat) (rs : List Rec) (K : Bool) : Bool := match c with | true => againR P H anc rs K | false => K
theorem againIfR_eq (c : Bool) (H : AH) (anc : Nat) (l : List Rec) (K : Bool) : againIfR c P H anc l K = againIf c P H anc l K := by
  unfold againIfR againIf
  rw [againR_eq]
  cases c <;> rfl
abbrev DrawF := Nat → List AV → AH → List Rec → (List AV → AH → Bool) → Bool
def masks (l : List (Nat × Oper)) : List (Nat × Nat × Oper) := l.map fun x => (x.1, direct x.2, x.2)
def masksK (l : List (Nat × Oper)) : (List (Nat × Nat × Oper) → Bool) → Bool := @List.rec (Nat × Oper) (fun _ => (List (Nat × Nat × Oper) → Bool) → Bool) (fun K => K []) (fun x _ rec K => fNat x.1 fun i => fNat (direct x.2) fun d => rec fun r => K ((i, d, x.2) :: r)) l
theorem masksK_eq : ∀ (l : List (Nat × Oper)) (K : List (Nat × Nat × Oper) → Bool), masksK l K = K (masks l)
  | [], K => rfl
  | x :: l, K => by
    show (fNat x.1 fun i => fNat (direct x.2) fun d => masksK l fun r => K ((i, d, x.2) :: r)) = _
    rw [fNat_eq, fNat_eq, masksK_eq l]
    rfl
def closuresK (l : List Oper) : List Nat → (List Nat → Bool) → Bool := @List.rec Oper (fun _ => List Nat → (List Nat → Bool) → Bool) (fun acc K => K acc) (fun o _ rec acc K => fNat (closeM acc o) fun m => rec (acc ++ [m]) K) l
theorem closuresK_eq : ∀ (l : List Oper) (acc : List Nat) (K : List Nat → Bool), closuresK l acc K = K (closures l acc)
  | [], acc, K => by rw [closures]; rfl
  | o :: l, acc, K => by
    show (fNat (closeM acc o) fun m => closuresK l (acc ++ [m]) K) = _
    rw [fNat_eq, closuresK_eq l, closures]
def pickVM (P : Program) (ops : Array Oper) (dn : Nat) (tmps : List AV) (l : List (Nat × Nat × Oper)) : Option (Nat × Oper × Bool) := @List.rec (Nat × Nat × Oper) (fun _ => Option (Nat × Oper × Bool)) none
  (fun x _ rec => cond (bit dn x.1) rec (cond (Nat.beq (x.2.1 &&& dn) x.2.1)
      (match wantedA ops tmps x.2.2 with
        | some false => some (x.1, x.2.2, false)
        | some true => match kind P x.2.2 with | 0 => some (x.1, x.2.2, true) | _ => rec
        | none => rec)
      rec)) l
theorem pickVM_eq (ops : Array Oper) (dn : Nat) (tmps : List AV) : ∀ l, pickVM P ops dn tmps (masks l) = pickV P ops dn tmps l
  | [] => rfl
  | (i, o) :: l => by
    have e : pickVM P ops dn tmps (masks ((i, o) :: l)) = cond (bit dn i) (pickVM P ops dn tmps (masks l)) (cond (Nat.beq (direct o &&& dn) (direct o))
      (match wantedA ops tmps o with
        | some false => some (i, o, false)
        | some true => match kind P o with | 0 => some (i, o, true) | _ => (pickVM P ops dn tmps (masks l))
        | none => (pickVM P ops dn tmps (masks l)))
      (pickVM P ops dn tmps (masks l))) := rfl
    rw [e, pickVM_eq ops dn tmps l, pickV]
    rfl
def pickEM (dn : Nat) (l : List (Nat × Nat × Oper)) : Option (Nat × Oper) := @List.rec (Nat × Nat × Oper) (fun _ => Option (Nat × Oper)) none
  (fun x _ rec => cond (bit dn x.1) rec (cond (Nat.beq (x.2.1 &&& dn) x.2.1) (some (x.1, x.2.2)) rec)) l
theorem pickEM_eq (dn : Nat) : ∀ l, pickEM dn (masks l) = pickE dn l
  | [] => rfl
  | (i, o) :: l => by
    have e : pickEM dn (masks ((i, o) :: l)) = cond (bit dn i) (pickEM dn (masks l)) (cond (Nat.beq (direct o &&& dn) (direct o)) (some (i, o)) (pickEM dn (masks l))) := rfl
    rw [e, pickEM_eq dn l, pickE]
def allD (dn : Nat) (l : List (Nat × Nat × Oper)) : Bool := @List.rec (Nat × Nat × Oper) (fun _ => Bool) true (fun x _ rec => cond (bit dn x.1) rec false) l
theorem allD_eq (dn : Nat) : ∀ l, allD dn (masks l) = allB (fun (x : Nat × Oper) => bit dn x.1) l
  | [] => rfl
  | (i, o) :: l => by
    have e : allD dn (masks ((i, o) :: l)) = cond (bit dn i) (allD dn (masks l)) false := rfl
    rw [e, allD_eq dn l, allB]
    cases bit dn i <;> rfl
def allO (P : Program) (dn i : Nat) (cl : List Nat) (l : List (Nat × Nat × Oper)) : Bool := @List.rec (Nat × Nat × Oper) (fun _ => Bool) true (fun x _ rec => cond (bit dn x.1) rec (cond (Nat.beq x.1 i) rec (cond (Nat.beq (kind P x.2.2) 0 && !Nat.beq (x.2.1 &&& dn) x.2.1) rec (cond (bit (cl.getD x.1 0) i) rec false)))) l
theorem allO_eq (dn i : Nat) (cl : List Nat) : ∀ l, allO P dn i cl (masks l) = allB (fun (x : Nat × Oper) => bit dn x.1 || Nat.beq x.1 i || (Nat.beq (kind P x.2) 0 && !Nat.beq (direct x.2 &&& dn) (direct x.2)) || bit (cl.getD x.1 0) i) l
  | [] => rfl
  | (k, q) :: l => by
    have e : allO P dn i cl (masks ((k, q) :: l)) = cond (bit dn k) (allO P dn i cl (masks l)) (cond (Nat.beq k i) (allO P dn i cl (masks l)) (cond (Nat.beq (kind P q) 0 && !Nat.beq (direct q &&& dn) (direct q)) (allO P dn i cl (masks l)) (cond (bit (cl.getD k 0) i) (allO P dn i cl (masks l)) false))) := rfl
    rw [e, allO_eq dn i cl l, allB]
    cases bit dn k <;> cases Nat.beq k i <;> cases (Nat.beq (kind P q) 0 && !Nat.beq (direct q &&& dn) (direct q)) <;> cases bit (cl.getD k 0) i <;> rfl
def drawStep (P : Program) (call : CallF) (ops : Array Oper) (io : List (Nat × Nat × Oper)) (cl : List Nat) (rec : DrawF) : DrawF := fun dn tmps H rs K => match pickVM P ops dn tmps io with
    | some (i, o, false) => fNat (dn ||| 2 ^ i) fun dn => put tmps o.dst (.tuple []) fun tmps' => rec dn tmps' H rs K
    | some (i, o, true) => evR P H tmps o fun q => done H q fun a H' => againIfR (!isVal q) P H' 0 ({ i, o, tmps, res := q, id := H.next } :: rs)
        (fNat (dn ||| 2 ^ i) fun dn => put tmps o.dst a fun tmps' => rec dn tmps' H' ({ i, o, tmps, res := q, id := H.next } :: rs) K)
    | none => match pickEM dn io with
      | none => cond (allD dn io) (K tmps H) false
      | some (i, o) => match wantedA ops tmps o with
        | some true => cond (allO P dn i cl io)
            (evW P call H tmps o fun a H => fNat (cl.getD i 0) fun anc => againR P H anc rs
              (fNat (dn ||| 2 ^ i) fun dn => put tmps o.dst a fun tmps => rec dn tmps H rs K)) false
        | _ => false
def evDrawR (P : Program) (call : CallF) (ops : Array Oper) (io : List (Nat × Nat × Oper)) (cl : List Nat) (n : Nat) : DrawF := @Nat.rec (fun _ => DrawF) (fun _ _ _ _ _ => false) (fun _ rec => drawStep P call ops io cl rec) n
theorem evDrawR_eq (call : CallF) (ops : Array Oper) (io : List (Nat × Oper)) (cl : List Nat) : ∀ n, evDrawR P call ops (masks io) cl n = evDraw P call ops io cl n
  | 0 => by funext dn tmps H rs K; rw [evDraw]; rfl
  | n + 1 => by
    have e : evDrawR P call ops (masks io) cl (n + 1) = drawStep P call ops (masks io) cl (evDrawR P call ops (masks io) cl n) := rfl
    rw [e, evDrawR_eq call ops io cl n]
    funext dn tmps H rs K
    rw [evDraw]
    unfold drawStep
    simp only [againIfR_eq, againR_eq, pickVM_eq, pickEM_eq, allD_eq, allO_eq, fNat_eq]
    rfl
abbrev CodeF := Code → List AV → AH → (Ex → List AV → AH → Bool) → Bool
def codeStep (P : Program) (call : CallF) (rd : Bool) (rec : CodeF) : CodeF := fun c tmps H K => match c with
    | .skip => K .normal tmps H
    | .label _ => K .normal tmps H
    | .region _ ops false => evOpsR P call ops ops.toList tmps H fun tmps H => K .normal tmps H
    | .region _ ops true => fork (drawOK ops.toList) (masksK (idxs ops.toList 0) fun io => closuresK ops.toList [] fun cl => evDrawR P call ops io cl (2 * ops.toList.length + 1) 0 tmps H [] fun tmps H => K .normal tmps H) false
    | .seq a b => rec a tmps H fun e tmps H => match e with
      | .normal => rec b tmps H K
      | e => K e tmps H
    | .cond x a b => match aop tmps x with
      | some (.bool true) => rec a tmps H K
      | some (.bool false) => rec b tmps H K
      | some .unkB => match rec a tmps H K with
        | true => rec b tmps H K
        | false => false
      | some (.sbool t) => fork t (rec a tmps H K) (rec b tmps H K)
      | _ => false
    | .block id b => rec b tmps H fun e tmps H => match e with
      | .exit j => cond (Nat.beq j id) (K .normal tmps H) (K (.exit j) tmps H)
      | e => K e tmps H
    | .loop b => rec b tmps H fun e tmps H => match e with
      | .normal => rec (.loop b) tmps H K
      | e => K e tmps H
    | .exit id => K (.exit id) tmps H
    | .goto l => K (.goto l) tmps H
    | .ret => K .ret tmps H
    | .rangeFunc f ps as bd => match rd, aop tmps f with
      | false, some (.fn g first caught) => H.alloc (.loop tmps ps.toList as bd) fun H1 =>
          call (.fn g) (first ++ [.yield H.next] ++ caught) H1 fun _ H2 => endLoop H2 H.next fun j H3 => match j with
            | none => K .normal tmps H3
            | some c => rec c tmps H3 K
      | _, _ => false
    | _ => false
def evCodeR (P : Program) (call : CallF) (rd : Bool) (n : Nat) : CodeF := @Nat.rec (fun _ => CodeF) (fun _ _ _ _ => false) (fun _ rec => codeStep P call rd rec) n
theorem evCodeR_eq (call : CallF) (rd : Bool) : ∀ n, evCodeR P call rd n = evCode P call rd n
  | 0 => by funext c tmps H K; rw [evCode]; rfl
  | n + 1 => by
    have e : evCodeR P call rd (n + 1) = codeStep P call rd (evCodeR P call rd n) := rfl
    rw [e, evCodeR_eq call rd n]
    funext c tmps H K
    rw [evCode.eq_def]
    unfold codeStep
    cases c <;> try rfl
    case region id ops d => cases d <;> simp only [evOpsR_eq, fork_eq, masksK_eq, closuresK_eq, evDrawR_eq]
def callStep (P : Program) (o : Nat → Bool) (cs : Nat → List AV → AH → (AV → AH → Bool) → Bool) (n : Nat) (rec : CallF) : CallF := fun t args H K => match t with
    | .fn f => match o f with
     | true => cs f args H K
     | false => match P.funcs[f]? with
      | none => false
      | some fn => match fn.body with
        | none => false
        | some c => evCodeR P rec false n c (args ++ undefs (fn.ntmps - args.length)) H fun e tmps H => match e with
          | .normal => match resAll P H tmps fn.results.toList with | some l => K (outV l) H | none => false
          | .ret => match resAll P H tmps fn.results.toList with | some l => K (outV l) H | none => false
          | _ => false
    | .yield b => match H.tr.get b with
      | some (.loop _ _ _ t ps as bd) => setParams ps args t fun tmps =>
          evCodeR P rec true n as tmps H fun e tmps H => match e with
            | .normal => H.own b fun H => match H.tr.get b with
              | some (.loop c 0 pend t ps as bd2) => H.put b (.loop c 1 pend t ps as bd2) fun H =>
                  evCodeR P rec true n bd tmps H fun e _ H => H.own b fun H => match H.tr.get b with
                    | some (.loop c _ _ t ps as bd) => match jumpOf e with
                      | none => H.put b (.loop c 0 none t ps as bd) fun H => K (.bool true) H
                      | some j => H.put b (.loop c 2 (some j) t ps as bd) fun H => K (.bool false) H
                    | _ => false
              | _ => false
            | _ => false
      | _ => false
def evCallR (P : Program) (o : Nat → Bool) (cs : Nat → List AV → AH → (AV → AH → Bool) → Bool) (n : Nat) : CallF := @Nat.rec (fun _ => CallF) (fun _ _ _ _ => false) (fun n rec => callStep P o cs n rec) n
theorem evCallR_eq (o : Nat → Bool) (cs : Nat → List AV → AH → (AV → AH → Bool) → Bool) : ∀ n, evCallR P o cs n = evCall P o cs n
  | 0 => by rw [evCall]; rfl
  | n + 1 => by
    have e : evCallR P o cs (n + 1) = callStep P o cs n (evCallR P o cs n) := rfl
    rw [e, evCallR_eq o cs n]
    funext t args H K
    rw [evCall]
    unfold callStep
    simp only [evCodeR_eq]
    cases t <;> rfl
def topStep (P : Program) (call : CallF) (lp : Nat → Bool) (n : Nat) (rec : CodeF) : CodeF := fun c tmps H K => match c with
    | .seq a b => rec a tmps H fun e tmps H => match e with
      | .normal => rec b tmps H K
      | e => K e tmps H
    | .cond x a b => match aop tmps x with
      | some (.bool true) => rec a tmps H K
      | some (.bool false) => rec b tmps H K
      | some (.sbool t) => fork t (rec a tmps H K) (rec b tmps H K)
      | _ => false
    | .block id b => rec b tmps H fun e tmps H => match e with
      | .exit j => cond (Nat.beq j id) (K .normal tmps H) (K (.exit j) tmps H)
      | e => K e tmps H
    | .loop b => match lp (regOf b) with
      | true => loopSpec (rec b) tmps H K
      | false => rec b tmps H fun e tmps H => match e with
        | .normal => rec (.loop b) tmps H K
        | e => K e tmps H
    | c => evCodeR P call false (n + 1) c tmps H K
def evTopR (P : Program) (call : CallF) (lp : Nat → Bool) (n : Nat) : CodeF := @Nat.rec (fun _ => CodeF) (fun _ _ _ _ => false) (fun n rec => topStep P call lp n rec) n
theorem evTopR_eq (call : CallF) (lp : Nat → Bool) : ∀ n, evTopR P call lp n = evTop P call lp n
  | 0 => by funext c tmps H K; rw [evTop]; rfl
  | n + 1 => by
    have e : evTopR P call lp (n + 1) = topStep P call lp n (evTopR P call lp n) := rfl
    rw [e, evTopR_eq call lp n]
    funext c tmps H K
    rw [evTop.eq_def]
    unfold topStep
    simp only [evCodeR_eq]
    cases c <;> rfl
/-- the end of a function: what it tells. -/
def endFun (P : Program) (rs : List ResultVar) (K : AV → AH → Bool) (e : Ex) (tmps : List AV) (H : AH) : Bool := match e with
  | .normal => match resAll P H tmps rs with | some l => K (outV l) H | none => false
  | .ret => match resAll P H tmps rs with | some l => K (outV l) H | none => false
  | _ => false
/-- a run on abstract memory is a contract. -/
theorem runs_by (hP : Plain P) (hm : P.follows .mixedOrders = true) {f : Nat} {fn : Func} {c : Code} (hf : P.funcs[f]? = some fn) (hb : fn.body = some c) {o lp : Nat → Bool} {n : Nat} {args : List AV} {R : AV → List NewB → Prop}
    (h : evTopR P (evCallR P o (callSpec P) n) lp n c (args ++ undefs (fn.ntmps - args.length)) AH.none (endFun P fn.results.toList (leaf' R)) = true) : Runs P f args R := by
  refine runs_of hP hm (o := o) (lp := lp) (n := n) ?_
  unfold evFun
  rw [evTopR_eq, evCallR_eq] at h
  simp only [hf, hb]
  exact h
theorem runsM_by (hP : Plain P) (hm : P.follows .mixedOrders = true) {f : Nat} {fn : Func} {c : Code} (hf : P.funcs[f]? = some fn) (hb : fn.body = some c) {o : Nat → Bool} {n : Nat} {G0 : List NewB} {args : List AV} {R : AV → List NewB → Prop}
    (h : allocAll G0 0 AH.none (fun H0 => evCodeR P (evCallR P o (callSpec P) n) false n c (args ++ undefs (fn.ntmps - args.length)) H0 (endFun P fn.results.toList fun x H => leaf' (RM G0.length R) (.tuple (x :: marks0 0 G0.length)) H)) = true) : RunsM P f G0 args R := by
  refine runsM_of hP hm hf hb (o := o) (n := n) ?_
  rw [evCodeR_eq, evCallR_eq] at h
  exact h
theorem leaf_truth {x : AV} {H : AH} (hx : x = .bool true) : leaf' (fun x G => x = .bool true ∧ G = []) x H = true := by
  subst hx
  exact leaf_of [] (.bool true) [] ⟨by simp [fitsA, fitA, nf], by simp [fitsB], .nil⟩ ⟨rfl, rfl⟩
def tellsTrue : AV → AH → Bool
  | .bool b, _ => b
  | _, _ => false
/-- a function that answers true, whatever else is: by one run. -/
theorem runs_closed (hP : Plain P) (hm : P.follows .mixedOrders = true) {f : Nat} {fn : Func} {c : Code} (hf : P.funcs[f]? = some fn) (hb : fn.body = some c) (n : Nat)
    (h : evTopR P (evCallR P (fun _ => false) (callSpec P) n) (fun _ => false) n c (undefs fn.ntmps) AH.none (endFun P fn.results.toList tellsTrue) = true) : Runs P f [] fun x G => x = .bool true ∧ G = [] := by
  refine runs_of' hP hm (o := fun _ => false) (lp := fun _ => false) (n := n) (KE := tellsTrue) (fun x H hx => ?_) ?_
  · cases x <;> first | (cases hx; done) | skip
    rename_i b
    cases b
    · cases hx
    · exact leaf_truth rfl
  · unfold evFun
    rw [evTopR_eq, evCallR_eq] at h
    simp only [hf, hb]
    exact h
theorem fork_split {c x y : Bool} (h1 : c = true → x = true) (h2 : c = false → y = true) : fork c x y = true := by
  rw [fork_eq]
  cases c
  · exact h2 rfl
  · exact h1 rfl
abbrev OpsT := List AV → AH → (List AV → AH → T) → T
abbrev DrawT := Nat → List AV → AH → List Rec → (List AV → AH → T) → T
abbrev CodeT := Code → List AV → AH → (Ex → List AV → AH → T) → T
def opStepT (P : Program) (call : CallT) (ops : Array Oper) (o : Oper) (rec : OpsT) : OpsT := fun tmps H K => match wantedA ops tmps o with
  | none => .ff
  | some false => putT tmps o.dst (.tuple []) fun tmps => rec tmps H K
  | some true => match kind P o with
    | 0 => evRT P H tmps o fun q => doneT H q fun a H => sidesT a fun a => putT tmps o.dst a fun tmps => rec tmps H K
    | _ => evWT P call H tmps o fun a H => putT tmps o.dst a fun tmps => rec tmps H K
def evOpsRT (P : Program) (call : CallT) (ops : Array Oper) (l : List Oper) : OpsT := @List.rec Oper (fun _ => OpsT) (fun tmps H K => K tmps H) (fun o _ rec => opStepT P call ops o rec) l
def againRT (P : Program) (H : AH) (anc : Nat) (l : List Rec) : T → T := @List.rec Rec (fun _ => T → T) (fun K => K) (fun q _ rec K => fNatT q.i fun i => cond (bit anc i) (rec K) (evRT P H q.tmps q.o fun x => x.beqKT q.res (rec K))) l
def againIfRT (c : Bool) (P : Program) (H : AH) (anc : Nat) (rs : List Rec) (K : T) : T := match c with | true => againRT P H anc rs K | false => K
def masksKT (l : List (Nat × Oper)) : (List (Nat × Nat × Oper) → T) → T := @List.rec (Nat × Oper) (fun _ => (List (Nat × Nat × Oper) → T) → T) (fun K => K []) (fun x _ rec K => fNatT x.1 fun i => fNatT (direct x.2) fun d => rec fun r => K ((i, d, x.2) :: r)) l
def closuresKT (l : List Oper) : List Nat → (List Nat → T) → T := @List.rec Oper (fun _ => List Nat → (List Nat → T) → T) (fun acc K => K acc) (fun o _ rec acc K => fNatT (closeM acc o) fun m => rec (acc ++ [m]) K) l
def drawStepT (P : Program) (call : CallT) (ops : Array Oper) (io : List (Nat × Nat × Oper)) (cl : List Nat) (rec : DrawT) : DrawT := fun dn tmps H rs K => match pickVM P ops dn tmps io with
    | some (i, o, false) => fNatT (dn ||| 2 ^ i) fun dn => putT tmps o.dst (.tuple []) fun tmps' => rec dn tmps' H rs K
    | some (i, o, true) => evRT P H tmps o fun q => doneT H q fun a H' => againIfRT (!isVal q) P H' 0 ({ i, o, tmps, res := q, id := H.next } :: rs)
        (fNatT (dn ||| 2 ^ i) fun dn => putT tmps o.dst a fun tmps' => rec dn tmps' H' ({ i, o, tmps, res := q, id := H.next } :: rs) K)
    | none => match pickEM dn io with
      | none => cond (allD dn io) (K tmps H) .ff
      | some (i, o) => match wantedA ops tmps o with
        | some true => cond (allO P dn i cl io)
            (evWT P call H tmps o fun a H => fNatT (cl.getD i 0) fun anc => againRT P H anc rs
              (fNatT (dn ||| 2 ^ i) fun dn => putT tmps o.dst a fun tmps => rec dn tmps H rs K)) .ff
        | _ => .ff
def evDrawRT (P : Program) (call : CallT) (ops : Array Oper) (io : List (Nat × Nat × Oper)) (cl : List Nat) (n : Nat) : DrawT := @Nat.rec (fun _ => DrawT) (fun _ _ _ _ _ => .ff) (fun _ rec => drawStepT P call ops io cl rec) n
def codeStepT (P : Program) (call : CallT) (rd : Bool) (rec : CodeT) : CodeT := fun c tmps H K => match c with
    | .skip => K .normal tmps H
    | .label _ => K .normal tmps H
    | .region _ ops false => evOpsRT P call ops ops.toList tmps H fun tmps H => K .normal tmps H
    | .region _ ops true => cond (drawOK ops.toList) (masksKT (idxs ops.toList 0) fun io => closuresKT ops.toList [] fun cl => evDrawRT P call ops io cl (2 * ops.toList.length + 1) 0 tmps H [] fun tmps H => K .normal tmps H) .ff
    | .seq a b => rec a tmps H fun e tmps H => match e with
      | .normal => rec b tmps H K
      | e => K e tmps H
    | .cond x a b => match aop tmps x with
      | some (.bool true) => rec a tmps H K
      | some (.bool false) => rec b tmps H K
      | some .unkB => T.both (rec a tmps H K) (rec b tmps H K)
      | some (.sbool t) => T.fork t (rec a tmps H K) (rec b tmps H K)
      | _ => .ff
    | .block id b => rec b tmps H fun e tmps H => match e with
      | .exit j => cond (Nat.beq j id) (K .normal tmps H) (K (.exit j) tmps H)
      | e => K e tmps H
    | .loop b => rec b tmps H fun e tmps H => match e with
      | .normal => rec (.loop b) tmps H K
      | e => K e tmps H
    | .exit id => K (.exit id) tmps H
    | .goto l => K (.goto l) tmps H
    | .ret => K .ret tmps H
    | .rangeFunc f ps as bd => match rd, aop tmps f with
      | false, some (.fn g first caught) => H.allocT (.loop tmps ps.toList as bd) fun H1 =>
          call (.fn g) (first ++ [.yield H.next] ++ caught) H1 fun _ H2 => endLoopT H2 H.next fun j H3 => match j with
            | none => K .normal tmps H3
            | some c => rec c tmps H3 K
      | _, _ => .ff
    | _ => .ff
def evCodeRT (P : Program) (call : CallT) (rd : Bool) (n : Nat) : CodeT := @Nat.rec (fun _ => CodeT) (fun _ _ _ _ => .ff) (fun _ rec => codeStepT P call rd rec) n
def callStepT (P : Program) (o : Nat → Bool) (n : Nat) (rec : CallT) : CallT := fun t args H K => match t with
    | .fn f => match o f with
     | true => .call f args H K
     | false => match P.funcs[f]? with
      | none => .ff
      | some fn => match fn.body with
        | none => .ff
        | some c => evCodeRT P rec false n c (args ++ undefs (fn.ntmps - args.length)) H fun e tmps H => match e with
          | .normal => match resAll P H tmps fn.results.toList with | some l => K (outV l) H | none => .ff
          | .ret => match resAll P H tmps fn.results.toList with | some l => K (outV l) H | none => .ff
          | _ => .ff
    | .yield b => match H.tr.get b with
      | some (.loop _ _ _ t ps as bd) => setParamsT ps args t fun tmps =>
          evCodeRT P rec true n as tmps H fun e tmps H => match e with
            | .normal => H.ownT b fun H => match H.tr.get b with
              | some (.loop c 0 pend t ps as bd2) => H.putT b (.loop c 1 pend t ps as bd2) fun H =>
                  evCodeRT P rec true n bd tmps H fun e _ H => H.ownT b fun H => match H.tr.get b with
                    | some (.loop c _ _ t ps as bd) => match jumpOf e with
                      | none => H.putT b (.loop c 0 none t ps as bd) fun H => K (.bool true) H
                      | some j => H.putT b (.loop c 2 (some j) t ps as bd) fun H => K (.bool false) H
                    | _ => .ff
              | _ => .ff
            | _ => .ff
      | _ => .ff
def evCallRT (P : Program) (o : Nat → Bool) (n : Nat) : CallT := @Nat.rec (fun _ => CallT) (fun _ _ _ _ => .ff) (fun n rec => callStepT P o n rec) n
def topStepT (P : Program) (call : CallT) (lp : Nat → Bool) (n : Nat) (rec : CodeT) : CodeT := fun c tmps H K => match c with
    | .seq a b => rec a tmps H fun e tmps H => match e with
      | .normal => rec b tmps H K
      | e => K e tmps H
    | .cond x a b => match aop tmps x with
      | some (.bool true) => rec a tmps H K
      | some (.bool false) => rec b tmps H K
      | some (.sbool t) => T.fork t (rec a tmps H K) (rec b tmps H K)
      | _ => .ff
    | .block id b => rec b tmps H fun e tmps H => match e with
      | .exit j => cond (Nat.beq j id) (K .normal tmps H) (K (.exit j) tmps H)
      | e => K e tmps H
    | .loop b => match lp (regOf b) with
      | true => .loop n b tmps H K
      | false => rec b tmps H fun e tmps H => match e with
        | .normal => rec (.loop b) tmps H K
        | e => K e tmps H
    | c => evCodeRT P call false (n + 1) c tmps H K
def evTopRT (P : Program) (call : CallT) (lp : Nat → Bool) (n : Nat) : CodeT := @Nat.rec (fun _ => CodeT) (fun _ _ _ _ => .ff) (fun n rec => topStepT P call lp n rec) n
def endFunT (P : Program) (rs : List ResultVar) (K : AV → AH → T) (e : Ex) (tmps : List AV) (H : AH) : T := match e with
  | .normal => match resAll P H tmps rs with | some l => K (outV l) H | none => .ff
  | .ret => match resAll P H tmps rs with | some l => K (outV l) H | none => .ff
  | _ => .ff
end
end Go.Proofs.Ytkdmlpmjfnjnmaa.Sv
